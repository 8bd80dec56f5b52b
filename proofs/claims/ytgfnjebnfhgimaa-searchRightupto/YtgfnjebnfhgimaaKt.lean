/-
  keepsTime.
-/
import Derived.Test.YtgfnjebnfhgimaaKp
import Derived.Test.YtgfnjebnfhgimaaIw
namespace Go.Proofs.Ytgfnjebnfhgimaa
set_option linter.unusedVariables false
set_option linter.unusedSimpArgs false
open Go.RowKit Go.Lib Go.Maps Go.Shelf
open Tx (MTxn TxnsIn TxnRow)
attribute [local go_sem] Oper.semAt_some

theorem ask_undef {P : Program} {ops : Array Oper} {Q : Exit → Act → World → Prop} {w0 : World} {frame : (Nat → Value) → Act} {R : Nat → Value → World → Prop} {i : Nat} {o : Oper} (j : Nat) (b : Bool) (hg : o.guard = some (j, b)) (hput : ∀ val v, (frame val).put o.dst v = frame (upV val i v)) (hy : ∀ val w, depsAll R val w o.after.toList → yielded ops (frame val).tmps j = none) (h : ∀ w, R i undef w) : OpAsk P ops Q w0 frame R i o := by
  intro val w hb hd
  rw [if_neg (by simp [Region.wanted, hg, hy val w hd])]
  exact ⟨hput val undef, h w⟩
theorem results_c8 (tmps : Array Value) (W : World) (b : Bool) {s : Nat} (ht : tmps.getD 4 undef = .pointer (some ⟨s + 1, 0, none⟩)) (h : W.heap[s + 1]? = some (.cells #[.bool b] 4)) : (results Try.f8 tmps).run Try.prog W = .ok (.bool b) W := by
  have hr : Try.f8.results = #[.cell 4 4] := rfl
  have hc : W.cell? ⟨s + 1, 0, none⟩ = some (.bool b) := Lib.cell_of_heap h 0
  rw [Array.getD_eq_getD_getElem?] at ht
  simp [results, hr, ht, hc, go_sem]
theorem below_kept {s : Nat} {w w4 W : World} (hs : w.heap.size = s) (hb : Below s w w4) (hk : KeepP (PF s) (s + 4) w4 W) : Below w.heap.size w W := by
  rw [hs]
  exact ⟨hk.os.trans hb.os, hk.tape.trans hb.tape, hk.output.trans hb.output, by have := hb.size; have := hk.size; omega, fun b h => (hk.block b (by omega) (fun c => by rcases c with c | c <;> omega)).trans (hb.block b h)⟩
/-- What keepsTime answers. -/
def TPost (l : List MTxn) (ord : List Int) (w : World) (e : Ending) (w' : World) : Prop := ∃ b : Bool, e = .returned (.bool b) ∧ (b = true ↔ noA l ord ord.length) ∧ Below w.heap.size w w'
set_option maxHeartbeats 16000000 in
set_option maxRecDepth 100000 in
theorem keepsTime_is (w : World) (tv ov : Value) (l : List MTxn) (ord : List Int) (ht : TxnsIn Any w tv l) (ho : IntsIn Any w ov ord) (hl : l.length ≤ 262144) (hpl : ∀ k, k < ord.length → 0 ≤ ord.getD k 0 ∧ ord.getD k 0 < l.length) (hol : ord.length ≤ l.length) :
    Calls Try.prog 8 #[tv, ov] w fun e w' => TPost l ord w e w' := by
  obtain ⟨ta, tc, rfl, ⟨hby, hcap⟩, hT⟩ := txns_cells ht
  obtain ⟨oa, oc, rfl, ⟨ob1, ob2⟩, hO⟩ := ho.cells
  have HT := hid hT
  have HPL := hid hpl
  clear hT ht ho hpl
  refine (callsIn_wide (n := 5)).1 ?_
  refine callsIn_of_wp_marks Try.func8 rfl trivial ?_ rfl
  simp only [Try.ntmps8, List.size_toArray, List.length_cons, List.length_nil, Nat.reduceAdd, Nat.reduceSub, Array.replicate_succ, Array.replicate_zero, List.push_toArray, List.append_toArray, List.nil_append, List.cons_append]
  gi_wp2_with (refine ⟨trivial, ?_⟩; gi_at_call 13; refine (backI_in Fence.wide _ trivial rfl _ _ _ _).mono ?_; rintro e w' ⟨rfl, rfl⟩)
  obtain ⟨w4, hw4⟩ : ∃ w4, (((w.alloc (.cells #[.slice ta l.length tc] 22)).alloc (.cells #[.bool false] 4)).alloc (.cells #[.int .i64 (-1)] 3)).alloc (.cells #[.slice oa ord.length oc] 23) = w4 := ⟨_, rfl⟩
  have hs4 : w4.heap.size = w.heap.size + 4 := by rw [← hw4, alloc_size, alloc_size, alloc_size, alloc_size]
  have b0 : w4.heap[w.heap.size]? = some (.cells #[.slice ta l.length tc] 22) := by rw [← hw4]; simp only [alloc_at, alloc_size]; rw [if_neg (by omega), if_neg (by omega), if_neg (by omega), if_pos trivial]
  have b1 : w4.heap[w.heap.size + 1]? = some (.cells #[.bool false] 4) := by rw [← hw4]; simp only [alloc_at, alloc_size]; rw [if_neg (by omega), if_neg (by omega), if_pos trivial]
  have b2 : w4.heap[w.heap.size + 2]? = some (.cells #[.int .i64 (-1)] 3) := by rw [← hw4]; simp only [alloc_at, alloc_size]; rw [if_neg (by omega), if_pos trivial]
  have b3 : w4.heap[w.heap.size + 3]? = some (.cells #[.slice oa ord.length oc] 23) := by rw [← hw4]; simp only [alloc_at, alloc_size]; rw [if_pos trivial]
  have BW : Below w.heap.size w w4 := by rw [← hw4]; exact ((((Below.refl _ w).alloc (Nat.le_refl _) _).alloc (by simp) _).alloc (by simp; omega) _).alloc (by simp; omega) _
  rw [hw4]
  clear hw4
  obtain ⟨s, hs⟩ : ∃ s, w.heap.size = s := ⟨_, rfl⟩
  simp only [hs, Nat.add_assoc, Nat.reduceAdd] at hs4 b0 b1 b2 b3 BW ⊢
  have hO4 : ∀ j, j < ord.length → ∃ b off, oa = some ⟨b, off, none⟩ ∧ b < s + 4 ∧ ¬ PF s b ∧ w4.cell? ⟨b, off + j, none⟩ = some (.int .i64 (ord.getD j 0)) := fun j hj => by
    obtain ⟨b, off, h1, h2⟩ := hO j hj
    have hlt := World.block_lt_of_cell? _ _ h2
    have hlt' : b < s := by rw [← hs]; exact hlt
    exact ⟨b, off, h1, by omega, fun c => by rcases c with c | c <;> omega, (BW.cell (p := ⟨b, off + j, none⟩) hlt').trans h2⟩
  refine wpIn_rangeFunc_lv (F := Fence.wide) (n := 5) rfl (by omega) (gf := 21) (lb := #[.pointer (some ⟨s + 3, 0, none⟩)]) rfl trivial (enters_of Try.func21 (by kernel_rfl) rfl)
    (backI_seq Fence.wide _ trivial rfl (by omega) (PF s) (s + 3) (s + 4) oa ord oc w4 (by omega) (by omega) (Lib.cell_of_heap b3 0) (by omega) (fun c => by rcases c with c | c <;> omega) (by omega) hO4)
    (Below.refl _ _) (fun _ => rfl) (fun h k => h.trans k) (fun W l o o' hl _ _ => KeepP.put W l o' (by omega))
    (fun k W => ∃ f, KJ s w4 l ord k f W)
    (fun W => ¬ noA l ord ord.length ∧ W.heap[s + 1]? = some (.cells #[.bool false] 4) ∧ KeepP (PF s) (s + 4) w4 W)
    (fun k W r o o' hj hl ho hx => by obtain ⟨f, hf⟩ := hj; exact ⟨f, hf.put r o' (by omega)⟩)
    (fun W r o o' hj hl ho hx => ⟨hj.1, (World.putObj_heap_other (by omega)).trans hj.2.1, hj.2.2.trans (KeepP.put W r o' (by omega))⟩)
    (fun o1 o2 => by
      have hb2 : Below w4.heap.size w4 ((w4.alloc o1).alloc o2) := ((Below.refl _ w4).alloc (Nat.le_refl _) _).alloc (by simp) _
      exact ⟨-1, (hb2.block _ (by omega)).trans b2, (hb2.block _ (by omega)).trans b1, .inl ⟨rfl, fun i h1 h2 => absurd h2 (by omega)⟩, fun q i h1 h2 h3 => absurd h3 (by omega), keepP_below hb2 (by omega)⟩)
    (fun k a1 W => (∃ f, KJ s w4 l ord k f W) ∧ a1 = { tmps := #[.slice ta l.length tc, .slice oa ord.length oc, .pointer (some ⟨s, 0, none⟩), undef, .pointer (some ⟨s + 1, 0, none⟩), .pointer (some ⟨s + 2, 0, none⟩), undef, .int .i64 (ord.getD (ord.length - 1 - k) 0), .slice oa ord.length oc, .func (.func 21) #[] #[.pointer (some ⟨s + 3, 0, none⟩)], .int .i64 ((ord.length - 1 - k : Nat) : Int), .int .i64 (ord.getD (ord.length - 1 - k) 0), undef, undef, undef, undef, undef, undef, undef, undef, undef, undef, undef, undef, undef, undef, undef, undef, undef, undef, undef, undef, undef, undef, undef, undef, undef, undef, undef, undef, undef, undef, undef, undef, undef, undef, undef, undef], defers := [] })
    (fun k a1 W r o o' hj hl ho hx => by obtain ⟨⟨f, hf⟩, ha⟩ := hj; exact ⟨⟨f, hf.put r o' (by omega)⟩, ha⟩)
    ?assign ?body ?done ?stop
  case assign =>
    rintro id k W hk hJ
    unfold backY
    gi_wp2
    exact ⟨KeepsFrom.refl _ _, KeepP.refl _ _ _, hJ, rfl⟩
  case done =>
    rintro D W hD ⟨f, hJ⟩ hK
    have c1 : W.cell? ⟨s + 1, 0, none⟩ = some (.bool false) := Lib.cell_of_heap hJ.ans 0
    have f1 : W.frozen? ⟨s + 1, 0, none⟩ = false := Lib.frozen_of_heap hJ.ans 0
    have HJ := hid hJ
    have HK := hid hK
    clear hJ hK
    gi_wp2
    refine ⟨by simp, .inl ⟨_, _, rfl, run_takeDeferred ((Below.heap_setCell _ _ _ _ (show D ≠ s + 1 by omega)).trans HK.out), ?_⟩⟩
    have hb9 : ((W.setCell ⟨s + 1, 0, none⟩ (.bool true)).putObj D (.deferred none)).heap[s + 1]? = some (.cells #[.bool true] 4) := by
      rw [World.putObj_heap_other (by omega), Go.Joins.block_setCell HJ.out.ans]; rfl
    have KK : KeepP (PF s) (s + 4) w4 ((W.setCell ⟨s + 1, 0, none⟩ (.bool true)).putObj D (.deferred none)) := (HJ.out.kp.trans (keepP_set _ _ (.inl rfl))).trans (KeepP.put _ _ _ (by omega))
    exact ⟨_, results_c8 _ _ _ rfl hb9, true, rfl, ⟨fun _ => HJ.out.non, fun _ => rfl⟩, below_kept hs BW KK⟩
  case stop =>
    rintro D W hD ⟨hno, hans, hkp⟩ hK
    have HKP := hid hkp
    have HK := hid hK
    clear hkp hK
    gi_wp2
    refine ⟨by simp, .inl ⟨_, _, rfl, run_takeDeferred HK.out, ?_⟩⟩
    have hb9 : (W.putObj D (.deferred none)).heap[s + 1]? = some (.cells #[.bool false] 4) := by
      rw [World.putObj_heap_other (by omega)]; exact hans
    have KK : KeepP (PF s) (s + 4) w4 (W.putObj D (.deferred none)) := HKP.out.trans (KeepP.put _ _ _ (by omega))
    exact ⟨_, results_c8 _ _ _ rfl hb9, false, rfl, ⟨fun c => absurd c (by decide), fun c => absurd c hno⟩, below_kept hs BW KK⟩
  case body =>
    rintro id k a1 W hk ⟨⟨f, hKJ⟩, rfl⟩
    have KJ0 := hid hKJ
    have hsw : s + 4 ≤ W.heap.size := by have := hKJ.kp.size; omega
    obtain ⟨j0, hj0⟩ : ∃ j0, ord.length - 1 - k = j0 := ⟨_, rfl⟩
    rw [hj0]
    obtain ⟨p1, p2⟩ := HPL.out j0 (by omega)
    obtain ⟨j, hj⟩ : ∃ j : Nat, ord.getD j0 0 = j := ⟨(ord.getD j0 0).toNat, by omega⟩
    have HJ := hid hj
    have hjl : j < l.length := by omega
    have hjli : (j : Int) < l.length := by omega
    obtain ⟨tb, tf, a1, n1, c1, hta, htb, q0, q1, q2, q3, q4⟩ := txc_row HT.out j hjl
    subst hta
    have y0 := cell_at hs BW hKJ.kp q0
    have y1 := cell_at hs BW hKJ.kp q1
    have y2 := cell_at hs BW hKJ.kp q2
    have y3 := cell_at hs BW hKJ.kp q3
    have y4 := cell_at hs BW hKJ.kp q4
    have htl : tb < W.heap.size := by omega
    have hs0l : s < W.heap.size := by omega
    have hs2l : s + 2 < W.heap.size := by omega
    have s0 := hKJ.kp.cell (b := s) (i := 0) (by omega) (fun c => by rcases c with c | c <;> omega) (Lib.cell_of_heap b0 0)
    have s2 := Lib.cell_of_heap hKJ.fst 0
    have HTX : Hid (atO l ord j0 = l.getD j default) := by show txO l _ = _; unfold txO; rw [hj]; rfl
    have hkk : k < ord.length := hk
    have HB0 := hid b0
    have HB1 := hid b1
    have HB2 := hid b2
    have HB3 := hid b3
    have HBW := hid BW
    have HO4 := hid hO4
    have HO := hid hO
    have hf0 := hKJ.bst
    have hno0 := hid hKJ.non
    rw [hj]
    clear hKJ b0 b1 b2 b3 BW hO4 hO q0 q1 q2 q3 q4 p1 p2 hj
    generalize hTT : l.getD j default = T at *
    have HTT := hid hTT
    clear hTT
    have HEG : ∀ r, r = endM T → Hid (∀ V, Calls Try.prog 15 #[(.agg #[.int .i64 T.1, .int .i64 T.2.1, .int .i64 T.2.2.1, .int .i64 T.2.2.2.1, .slice a1 n1 c1])] V fun e w' => e = .returned (.bool r) ∧ Below V.heap.size V w') := fun r hr V => hasEnd_is T.1 T.2.1 T.2.2.1 T.2.2.2.1 a1 n1 c1 V r hr
    rcases hf0 with ⟨rfl, hfree⟩ | ⟨q0, hq1, hq2, rfl, hqe, hqm⟩
    · have NO : Hid (noA l ord (k + 1)) := noA_next hk hj0 hno0.out (none_free hk hj0 hfree)
      have FR := hid hfree
      clear hfree
      cases hE : endM T with
      | true =>
        have HE := HEG true hE.symm
        have HE2 : Hid (endM (atO l ord j0) = true) := by show _ = _; rw [HTX.out]; exact hE
        clear HEG hE
        (try gi_wp2)
        refine wpIn_region_ask id Try.mixedOrders (by kernel_rfl) (by kernel_rfl) (fun val => { tmps := #[_, _, _, _, _, _, _, _, _, _, _, _, val 0, val 1, val 2, val 3, val 4, val 5, val 6, val 7, val 8, val 9, val 10, val 11, val 12, _, _, _, _, _, _, _, _, _, _, _, _, _, _, _, _, _, _, _, _, _, _, _], defers := [] }) (fun i v _ => match i with | 0 => v = .int .i64 (-1) | 1 => v = .bool false | 2 => v = .bool false | 3 => v = undef | 4 => v = undef | 5 => v = undef | 6 => v = undef | 7 => v = undef | 8 => v = undef | 9 => v = undef | 10 => v = undef | 11 => v = undef | 12 => v = .bool false | _ => True) (fun _ => undef) rfl (fun i v w w2 hv _ => hv) _ rfl ⟨?_, ?_, ?_, ?_, ?_, ?_, ?_, ?_, ?_, ?_, ?_, ?_, ?_, trivial⟩ ?_
        · refine ask_plain rfl (fun _ _ => rfl) (fun val V hb hd => ?_)
          have d := (hb.cell (p := ⟨s + 2, 0, none⟩) hs2l).trans s2
          refine does_value (v := .int .i64 (-1)) ?_ rfl
          simp [execOp, Act.eval, go_sem, d]
        · refine ask_plain rfl (fun _ _ => rfl) (fun val V hb hd => ?_)
          have h0 : val 0 = .int .i64 (-1) := depsAll_get hd 0 rfl
          refine does_value (v := .bool false) ?_ rfl
          simp [execOp, Act.eval, h0, go_sem]
        · refine ask_plain rfl (fun _ _ => rfl) (fun val V hb hd => ?_)
          have h1 : val 1 = .bool false := depsAll_get hd 1 rfl
          exact does_value rfl h1
        · exact ask_no 2 true false rfl (by decide) (fun _ _ => rfl) (fun val V hd => by have hj : val 2 = .bool false := depsAll_get hd 2 rfl; simp [yielded, hj]) (fun _ => rfl)
        · exact ask_no 2 true false rfl (by decide) (fun _ _ => rfl) (fun val V hd => by have hj : val 2 = .bool false := depsAll_get hd 2 rfl; simp [yielded, hj]) (fun _ => rfl)
        · exact ask_no 2 true false rfl (by decide) (fun _ _ => rfl) (fun val V hd => by have hj : val 2 = .bool false := depsAll_get hd 2 rfl; simp [yielded, hj]) (fun _ => rfl)
        · exact ask_no 2 true false rfl (by decide) (fun _ _ => rfl) (fun val V hd => by have hj : val 2 = .bool false := depsAll_get hd 2 rfl; simp [yielded, hj]) (fun _ => rfl)
        · exact ask_no 2 true false rfl (by decide) (fun _ _ => rfl) (fun val V hd => by have hj : val 2 = .bool false := depsAll_get hd 2 rfl; simp [yielded, hj]) (fun _ => rfl)
        · exact ask_no 2 true false rfl (by decide) (fun _ _ => rfl) (fun val V hd => by have hj : val 2 = .bool false := depsAll_get hd 2 rfl; simp [yielded, hj]) (fun _ => rfl)
        · exact ask_no 2 true false rfl (by decide) (fun _ _ => rfl) (fun val V hd => by have hj : val 2 = .bool false := depsAll_get hd 2 rfl; simp [yielded, hj]) (fun _ => rfl)
        · exact ask_no 2 true false rfl (by decide) (fun _ _ => rfl) (fun val V hd => by have hj : val 2 = .bool false := depsAll_get hd 2 rfl; simp [yielded, hj]) (fun _ => rfl)
        · exact ask_no 2 true false rfl (by decide) (fun _ _ => rfl) (fun val V hd => by have hj : val 2 = .bool false := depsAll_get hd 2 rfl; simp [yielded, hj]) (fun _ => rfl)
        · refine ask_plain rfl (fun _ _ => rfl) (fun val V hb hd => ?_)
          have h2 : val 2 = .bool false := depsAll_get hd 2 rfl
          have h11 : val 11 = undef := depsAll_get hd 11 rfl
          refine does_value (v := .bool false) ?_ rfl
          simp [execOp, Act.eval, h2, h11, go_sem]
        intro val V1 hb1 hR
        have h12 : val 12 = .bool false := hR 12 (by decide)
        have B1 := hid hb1
        clear hR hb1
        gi_wp2
        rw [h12]
        gi_wp2
        replace s0 := (B1.out.cell (p := ⟨s, 0, none⟩) hs0l).trans s0
        replace s2 := (B1.out.cell (p := ⟨s + 2, 0, none⟩) hs2l).trans s2
        replace y0 := (B1.out.cell (p := ⟨tb, tf + j * 5, none⟩) htl).trans y0
        replace y1 := (B1.out.cell (p := ⟨tb, tf + j * 5 + 1, none⟩) htl).trans y1
        replace y2 := (B1.out.cell (p := ⟨tb, tf + j * 5 + 2, none⟩) htl).trans y2
        replace y3 := (B1.out.cell (p := ⟨tb, tf + j * 5 + 3, none⟩) htl).trans y3
        replace y4 := (B1.out.cell (p := ⟨tb, tf + j * 5 + 4, none⟩) htl).trans y4
        replace hs0l := Nat.lt_of_lt_of_le hs0l B1.out.size
        replace hs2l := Nat.lt_of_lt_of_le hs2l B1.out.size
        replace htl := Nat.lt_of_lt_of_le htl B1.out.size
        (try gi_wp2)
        refine wpIn_region_ask id Try.mixedOrders (by kernel_rfl) (by kernel_rfl) (fun val => { tmps := #[_, _, _, _, _, _, _, _, _, _, _, _, _, _, _, _, _, _, _, _, _, _, _, _, _, val 0, val 1, val 2, val 3, val 4, val 5, val 6, val 7, val 8, val 9, val 10, val 11, val 12, val 13, val 14, val 15, val 16, val 17, val 18, val 19, val 20, val 21, _], defers := [] }) (fun i v _ => match i with | 0 => v = .slice (some ⟨tb, tf, none⟩) l.length tc | 1 => v = .int .i64 (j : Int) | 2 => v = .pointer (some ⟨tb, tf + j * 5, none⟩) | 3 => v = (.agg #[.int .i64 T.1, .int .i64 T.2.1, .int .i64 T.2.2.1, .int .i64 T.2.2.2.1, .slice a1 n1 c1]) | 4 => v = .bool true | 5 => v = .bool true | 6 => v = .int .i64 (-1) | 7 => v = .bool true | 8 => v = .bool true | 9 => v = undef | 10 => v = undef | 11 => v = undef | 12 => v = undef | 13 => v = undef | 14 => v = undef | 15 => v = undef | 16 => v = undef | 17 => v = undef | 18 => v = undef | 19 => v = undef | 20 => v = .bool true | 21 => v = .bool true | _ => True) (fun _ => undef) rfl (fun i v w w2 hv _ => hv) _ rfl ⟨?_, ?_, ?_, ?_, ?_, ?_, ?_, ?_, ?_, ?_, ?_, ?_, ?_, ?_, ?_, ?_, ?_, ?_, ?_, ?_, ?_, ?_, trivial⟩ ?_
        · refine ask_plain rfl (fun _ _ => rfl) (fun val V hb hd => ?_)
          have d := (hb.cell (p := ⟨s, 0, none⟩) hs0l).trans s0
          refine does_value (v := .slice (some ⟨tb, tf, none⟩) l.length tc) ?_ rfl
          simp [execOp, Act.eval, go_sem, d]
        · refine ask_plain rfl (fun _ _ => rfl) (fun val V hb hd => ?_)
          exact does_value rfl rfl
        · refine ask_plain rfl (fun _ _ => rfl) (fun val V hb hd => ?_)
          have h0 : val 0 = .slice (some ⟨tb, tf, none⟩) l.length tc := depsAll_get hd 0 rfl
          have h1 : val 1 = .int .i64 (j : Int) := depsAll_get hd 1 rfl
          refine does_value (v := .pointer (some ⟨tb, tf + j * 5, none⟩)) ?_ rfl
          simp [execOp, Act.eval, h0, h1, go_sem, hjli]
        · refine ask_plain rfl (fun _ _ => rfl) (fun val V hb hd => ?_)
          have h0 : val 2 = .pointer (some ⟨tb, tf + j * 5, none⟩) := depsAll_get hd 2 rfl
          have d0 := (hb.cell (p := ⟨tb, tf + j * 5, none⟩) htl).trans y0
          have d1 := (hb.cell (p := ⟨tb, tf + j * 5 + 1, none⟩) htl).trans y1
          have d2 := (hb.cell (p := ⟨tb, tf + j * 5 + 2, none⟩) htl).trans y2
          have d3 := (hb.cell (p := ⟨tb, tf + j * 5 + 3, none⟩) htl).trans y3
          have d4 := (hb.cell (p := ⟨tb, tf + j * 5 + 4, none⟩) htl).trans y4
          refine does_value (v := (.agg #[.int .i64 T.1, .int .i64 T.2.1, .int .i64 T.2.2.1, .int .i64 T.2.2.2.1, .slice a1 n1 c1])) ?_ rfl
          simp [execOp, Act.eval, h0, go_sem, d0, d1, d2, d3, d4]
        · refine ask_plain rfl (fun _ _ => rfl) (fun val V hb hd => ?_)
          have h3 : val 3 = (.agg #[.int .i64 T.1, .int .i64 T.2.1, .int .i64 T.2.2.1, .int .i64 T.2.2.2.1, .slice a1 n1 c1]) := depsAll_get hd 3 rfl
          refine does_call (f := 15) (args := #[(.agg #[.int .i64 T.1, .int .i64 T.2.1, .int .i64 T.2.2.1, .int .i64 T.2.2.2.1, .slice a1 n1 c1])]) ?_ (HE.out V) (fun e w2 h => ⟨_, h.1, rfl, h.2⟩)
          simp [execOp, Act.eval, h3, go_sem]
        · refine ask_plain rfl (fun _ _ => rfl) (fun val V hb hd => ?_)
          have h4 : val 4 = .bool true := depsAll_get hd 4 rfl
          exact does_value rfl h4
        · refine ask_yes 5 true rfl (fun _ _ => rfl) (fun val V hd => by have hj : val 5 = .bool true := depsAll_get hd 5 rfl; simp [yielded, hj]) (fun val V hb hd => ?_)
          have d := (hb.cell (p := ⟨s + 2, 0, none⟩) hs2l).trans s2
          refine does_value (v := .int .i64 (-1)) ?_ rfl
          simp [execOp, Act.eval, go_sem, d]
        · refine ask_yes 5 true rfl (fun _ _ => rfl) (fun val V hd => by have hj : val 5 = .bool true := depsAll_get hd 5 rfl; simp [yielded, hj]) (fun val V hb hd => ?_)
          have h6 : val 6 = .int .i64 (-1) := depsAll_get hd 6 rfl
          refine does_value (v := .bool true) ?_ rfl
          simp [execOp, Act.eval, h6, go_sem]
        · refine ask_yes 5 true rfl (fun _ _ => rfl) (fun val V hd => by have hj : val 5 = .bool true := depsAll_get hd 5 rfl; simp [yielded, hj]) (fun val V hb hd => ?_)
          have h7 : val 7 = .bool true := depsAll_get hd 7 rfl
          exact does_value rfl h7
        · exact ask_no 8 false true rfl (by decide) (fun _ _ => rfl) (fun val V hd => by have hj : val 8 = .bool true := depsAll_get hd 8 rfl; simp [yielded, hj]) (fun _ => rfl)
        · exact ask_no 8 false true rfl (by decide) (fun _ _ => rfl) (fun val V hd => by have hj : val 8 = .bool true := depsAll_get hd 8 rfl; simp [yielded, hj]) (fun _ => rfl)
        · exact ask_no 8 false true rfl (by decide) (fun _ _ => rfl) (fun val V hd => by have hj : val 8 = .bool true := depsAll_get hd 8 rfl; simp [yielded, hj]) (fun _ => rfl)
        · exact ask_no 8 false true rfl (by decide) (fun _ _ => rfl) (fun val V hd => by have hj : val 8 = .bool true := depsAll_get hd 8 rfl; simp [yielded, hj]) (fun _ => rfl)
        · exact ask_no 8 false true rfl (by decide) (fun _ _ => rfl) (fun val V hd => by have hj : val 8 = .bool true := depsAll_get hd 8 rfl; simp [yielded, hj]) (fun _ => rfl)
        · exact ask_no 8 false true rfl (by decide) (fun _ _ => rfl) (fun val V hd => by have hj : val 8 = .bool true := depsAll_get hd 8 rfl; simp [yielded, hj]) (fun _ => rfl)
        · exact ask_no 8 false true rfl (by decide) (fun _ _ => rfl) (fun val V hd => by have hj : val 8 = .bool true := depsAll_get hd 8 rfl; simp [yielded, hj]) (fun _ => rfl)
        · exact ask_no 8 false true rfl (by decide) (fun _ _ => rfl) (fun val V hd => by have hj : val 8 = .bool true := depsAll_get hd 8 rfl; simp [yielded, hj]) (fun _ => rfl)
        · exact ask_no 8 false true rfl (by decide) (fun _ _ => rfl) (fun val V hd => by have hj : val 8 = .bool true := depsAll_get hd 8 rfl; simp [yielded, hj]) (fun _ => rfl)
        · exact ask_no 8 false true rfl (by decide) (fun _ _ => rfl) (fun val V hd => by have hj : val 8 = .bool true := depsAll_get hd 8 rfl; simp [yielded, hj]) (fun _ => rfl)
        · exact ask_no 8 false true rfl (by decide) (fun _ _ => rfl) (fun val V hd => by have hj : val 8 = .bool true := depsAll_get hd 8 rfl; simp [yielded, hj]) (fun _ => rfl)
        · refine ask_yes 5 true rfl (fun _ _ => rfl) (fun val V hd => by have hj : val 5 = .bool true := depsAll_get hd 5 rfl; simp [yielded, hj]) (fun val V hb hd => ?_)
          have h8 : val 8 = .bool true := depsAll_get hd 8 rfl
          have h19 : val 19 = undef := depsAll_get hd 19 rfl
          refine does_value (v := .bool true) ?_ rfl
          simp [execOp, Act.eval, h8, h19, go_sem]
        · refine ask_plain rfl (fun _ _ => rfl) (fun val V hb hd => ?_)
          have h5 : val 5 = .bool true := depsAll_get hd 5 rfl
          have h20 : val 20 = .bool true := depsAll_get hd 20 rfl
          refine does_value (v := .bool true) ?_ rfl
          simp [execOp, Act.eval, h5, h20, go_sem]
        intro val V2 hb2 hR
        have h21 : val 21 = .bool true := hR 21 (by decide)
        have B2 := hid hb2
        clear hR hb2
        have BV : Hid (Below W.heap.size W V2) := B1.out.trans (B2.out.mono B1.out.size)
        have c2 : V2.cell? ⟨s + 2, 0, none⟩ = some (.int .i64 (-1)) := (B2.out.cell (p := ⟨s + 2, 0, none⟩) hs2l).trans s2
        have fz : V2.frozen? ⟨s + 2, 0, none⟩ = false := Lib.frozen_of_heap ((BV.out.block _ (by omega)).trans KJ0.out.fst) 0
        gi_wp2
        rw [h21]
        gi_wp2
        exact ⟨(keepsFrom_below BV.out).trans ((KeepsOthers.setCell _ _ _).from _), (keepP_below BV.out hsw).trans (keepP_set _ _ (.inr rfl)), _, KJ0.out.set BV.out hsw (by rw [← HJ.out]; exact best_first hk hj0 FR.out HE2.out) NO.out⟩
      | false =>
        have HE := HEG false hE.symm
        have HE2 : Hid (endM (atO l ord j0) = false) := by show _ = _; rw [HTX.out]; exact hE
        clear HEG hE
        (try gi_wp2)
        refine wpIn_region_ask id Try.mixedOrders (by kernel_rfl) (by kernel_rfl) (fun val => { tmps := #[_, _, _, _, _, _, _, _, _, _, _, _, val 0, val 1, val 2, val 3, val 4, val 5, val 6, val 7, val 8, val 9, val 10, val 11, val 12, _, _, _, _, _, _, _, _, _, _, _, _, _, _, _, _, _, _, _, _, _, _, _], defers := [] }) (fun i v _ => match i with | 0 => v = .int .i64 (-1) | 1 => v = .bool false | 2 => v = .bool false | 3 => v = undef | 4 => v = undef | 5 => v = undef | 6 => v = undef | 7 => v = undef | 8 => v = undef | 9 => v = undef | 10 => v = undef | 11 => v = undef | 12 => v = .bool false | _ => True) (fun _ => undef) rfl (fun i v w w2 hv _ => hv) _ rfl ⟨?_, ?_, ?_, ?_, ?_, ?_, ?_, ?_, ?_, ?_, ?_, ?_, ?_, trivial⟩ ?_
        · refine ask_plain rfl (fun _ _ => rfl) (fun val V hb hd => ?_)
          have d := (hb.cell (p := ⟨s + 2, 0, none⟩) hs2l).trans s2
          refine does_value (v := .int .i64 (-1)) ?_ rfl
          simp [execOp, Act.eval, go_sem, d]
        · refine ask_plain rfl (fun _ _ => rfl) (fun val V hb hd => ?_)
          have h0 : val 0 = .int .i64 (-1) := depsAll_get hd 0 rfl
          refine does_value (v := .bool false) ?_ rfl
          simp [execOp, Act.eval, h0, go_sem]
        · refine ask_plain rfl (fun _ _ => rfl) (fun val V hb hd => ?_)
          have h1 : val 1 = .bool false := depsAll_get hd 1 rfl
          exact does_value rfl h1
        · exact ask_no 2 true false rfl (by decide) (fun _ _ => rfl) (fun val V hd => by have hj : val 2 = .bool false := depsAll_get hd 2 rfl; simp [yielded, hj]) (fun _ => rfl)
        · exact ask_no 2 true false rfl (by decide) (fun _ _ => rfl) (fun val V hd => by have hj : val 2 = .bool false := depsAll_get hd 2 rfl; simp [yielded, hj]) (fun _ => rfl)
        · exact ask_no 2 true false rfl (by decide) (fun _ _ => rfl) (fun val V hd => by have hj : val 2 = .bool false := depsAll_get hd 2 rfl; simp [yielded, hj]) (fun _ => rfl)
        · exact ask_no 2 true false rfl (by decide) (fun _ _ => rfl) (fun val V hd => by have hj : val 2 = .bool false := depsAll_get hd 2 rfl; simp [yielded, hj]) (fun _ => rfl)
        · exact ask_no 2 true false rfl (by decide) (fun _ _ => rfl) (fun val V hd => by have hj : val 2 = .bool false := depsAll_get hd 2 rfl; simp [yielded, hj]) (fun _ => rfl)
        · exact ask_no 2 true false rfl (by decide) (fun _ _ => rfl) (fun val V hd => by have hj : val 2 = .bool false := depsAll_get hd 2 rfl; simp [yielded, hj]) (fun _ => rfl)
        · exact ask_no 2 true false rfl (by decide) (fun _ _ => rfl) (fun val V hd => by have hj : val 2 = .bool false := depsAll_get hd 2 rfl; simp [yielded, hj]) (fun _ => rfl)
        · exact ask_no 2 true false rfl (by decide) (fun _ _ => rfl) (fun val V hd => by have hj : val 2 = .bool false := depsAll_get hd 2 rfl; simp [yielded, hj]) (fun _ => rfl)
        · exact ask_no 2 true false rfl (by decide) (fun _ _ => rfl) (fun val V hd => by have hj : val 2 = .bool false := depsAll_get hd 2 rfl; simp [yielded, hj]) (fun _ => rfl)
        · refine ask_plain rfl (fun _ _ => rfl) (fun val V hb hd => ?_)
          have h2 : val 2 = .bool false := depsAll_get hd 2 rfl
          have h11 : val 11 = undef := depsAll_get hd 11 rfl
          refine does_value (v := .bool false) ?_ rfl
          simp [execOp, Act.eval, h2, h11, go_sem]
        intro val V1 hb1 hR
        have h12 : val 12 = .bool false := hR 12 (by decide)
        have B1 := hid hb1
        clear hR hb1
        gi_wp2
        rw [h12]
        gi_wp2
        replace s0 := (B1.out.cell (p := ⟨s, 0, none⟩) hs0l).trans s0
        replace s2 := (B1.out.cell (p := ⟨s + 2, 0, none⟩) hs2l).trans s2
        replace y0 := (B1.out.cell (p := ⟨tb, tf + j * 5, none⟩) htl).trans y0
        replace y1 := (B1.out.cell (p := ⟨tb, tf + j * 5 + 1, none⟩) htl).trans y1
        replace y2 := (B1.out.cell (p := ⟨tb, tf + j * 5 + 2, none⟩) htl).trans y2
        replace y3 := (B1.out.cell (p := ⟨tb, tf + j * 5 + 3, none⟩) htl).trans y3
        replace y4 := (B1.out.cell (p := ⟨tb, tf + j * 5 + 4, none⟩) htl).trans y4
        replace hs0l := Nat.lt_of_lt_of_le hs0l B1.out.size
        replace hs2l := Nat.lt_of_lt_of_le hs2l B1.out.size
        replace htl := Nat.lt_of_lt_of_le htl B1.out.size
        (try gi_wp2)
        refine wpIn_region_ask id Try.mixedOrders (by kernel_rfl) (by kernel_rfl) (fun val => { tmps := #[_, _, _, _, _, _, _, _, _, _, _, _, _, _, _, _, _, _, _, _, _, _, _, _, _, val 0, val 1, val 2, val 3, val 4, val 5, val 6, val 7, val 8, val 9, val 10, val 11, val 12, val 13, val 14, val 15, val 16, val 17, val 18, val 19, val 20, val 21, _], defers := [] }) (fun i v _ => match i with | 0 => v = .slice (some ⟨tb, tf, none⟩) l.length tc | 1 => v = .int .i64 (j : Int) | 2 => v = .pointer (some ⟨tb, tf + j * 5, none⟩) | 3 => v = (.agg #[.int .i64 T.1, .int .i64 T.2.1, .int .i64 T.2.2.1, .int .i64 T.2.2.2.1, .slice a1 n1 c1]) | 4 => v = .bool false | 5 => v = .bool false | 6 => v = undef | 7 => v = undef | 8 => v = undef | 9 => v = undef | 10 => v = undef | 11 => v = undef | 12 => v = undef | 13 => v = undef | 14 => v = undef | 15 => v = undef | 16 => v = undef | 17 => v = undef | 18 => v = undef | 19 => v = undef | 20 => v = undef | 21 => v = .bool false | _ => True) (fun _ => undef) rfl (fun i v w w2 hv _ => hv) _ rfl ⟨?_, ?_, ?_, ?_, ?_, ?_, ?_, ?_, ?_, ?_, ?_, ?_, ?_, ?_, ?_, ?_, ?_, ?_, ?_, ?_, ?_, ?_, trivial⟩ ?_
        · refine ask_plain rfl (fun _ _ => rfl) (fun val V hb hd => ?_)
          have d := (hb.cell (p := ⟨s, 0, none⟩) hs0l).trans s0
          refine does_value (v := .slice (some ⟨tb, tf, none⟩) l.length tc) ?_ rfl
          simp [execOp, Act.eval, go_sem, d]
        · refine ask_plain rfl (fun _ _ => rfl) (fun val V hb hd => ?_)
          exact does_value rfl rfl
        · refine ask_plain rfl (fun _ _ => rfl) (fun val V hb hd => ?_)
          have h0 : val 0 = .slice (some ⟨tb, tf, none⟩) l.length tc := depsAll_get hd 0 rfl
          have h1 : val 1 = .int .i64 (j : Int) := depsAll_get hd 1 rfl
          refine does_value (v := .pointer (some ⟨tb, tf + j * 5, none⟩)) ?_ rfl
          simp [execOp, Act.eval, h0, h1, go_sem, hjli]
        · refine ask_plain rfl (fun _ _ => rfl) (fun val V hb hd => ?_)
          have h0 : val 2 = .pointer (some ⟨tb, tf + j * 5, none⟩) := depsAll_get hd 2 rfl
          have d0 := (hb.cell (p := ⟨tb, tf + j * 5, none⟩) htl).trans y0
          have d1 := (hb.cell (p := ⟨tb, tf + j * 5 + 1, none⟩) htl).trans y1
          have d2 := (hb.cell (p := ⟨tb, tf + j * 5 + 2, none⟩) htl).trans y2
          have d3 := (hb.cell (p := ⟨tb, tf + j * 5 + 3, none⟩) htl).trans y3
          have d4 := (hb.cell (p := ⟨tb, tf + j * 5 + 4, none⟩) htl).trans y4
          refine does_value (v := (.agg #[.int .i64 T.1, .int .i64 T.2.1, .int .i64 T.2.2.1, .int .i64 T.2.2.2.1, .slice a1 n1 c1])) ?_ rfl
          simp [execOp, Act.eval, h0, go_sem, d0, d1, d2, d3, d4]
        · refine ask_plain rfl (fun _ _ => rfl) (fun val V hb hd => ?_)
          have h3 : val 3 = (.agg #[.int .i64 T.1, .int .i64 T.2.1, .int .i64 T.2.2.1, .int .i64 T.2.2.2.1, .slice a1 n1 c1]) := depsAll_get hd 3 rfl
          refine does_call (f := 15) (args := #[(.agg #[.int .i64 T.1, .int .i64 T.2.1, .int .i64 T.2.2.1, .int .i64 T.2.2.2.1, .slice a1 n1 c1])]) ?_ (HE.out V) (fun e w2 h => ⟨_, h.1, rfl, h.2⟩)
          simp [execOp, Act.eval, h3, go_sem]
        · refine ask_plain rfl (fun _ _ => rfl) (fun val V hb hd => ?_)
          have h4 : val 4 = .bool false := depsAll_get hd 4 rfl
          exact does_value rfl h4
        · exact ask_no 5 true false rfl (by decide) (fun _ _ => rfl) (fun val V hd => by have hj : val 5 = .bool false := depsAll_get hd 5 rfl; simp [yielded, hj]) (fun _ => rfl)
        · exact ask_no 5 true false rfl (by decide) (fun _ _ => rfl) (fun val V hd => by have hj : val 5 = .bool false := depsAll_get hd 5 rfl; simp [yielded, hj]) (fun _ => rfl)
        · exact ask_no 5 true false rfl (by decide) (fun _ _ => rfl) (fun val V hd => by have hj : val 5 = .bool false := depsAll_get hd 5 rfl; simp [yielded, hj]) (fun _ => rfl)
        · exact ask_undef 8 false rfl (fun _ _ => rfl) (fun val V hd => by have hj : val 8 = undef := depsAll_get hd 8 rfl; simp [yielded, hj, undef]) (fun _ => rfl)
        · exact ask_undef 8 false rfl (fun _ _ => rfl) (fun val V hd => by have hj : val 8 = undef := depsAll_get hd 8 rfl; simp [yielded, hj, undef]) (fun _ => rfl)
        · exact ask_undef 8 false rfl (fun _ _ => rfl) (fun val V hd => by have hj : val 8 = undef := depsAll_get hd 8 rfl; simp [yielded, hj, undef]) (fun _ => rfl)
        · exact ask_undef 8 false rfl (fun _ _ => rfl) (fun val V hd => by have hj : val 8 = undef := depsAll_get hd 8 rfl; simp [yielded, hj, undef]) (fun _ => rfl)
        · exact ask_undef 8 false rfl (fun _ _ => rfl) (fun val V hd => by have hj : val 8 = undef := depsAll_get hd 8 rfl; simp [yielded, hj, undef]) (fun _ => rfl)
        · exact ask_undef 8 false rfl (fun _ _ => rfl) (fun val V hd => by have hj : val 8 = undef := depsAll_get hd 8 rfl; simp [yielded, hj, undef]) (fun _ => rfl)
        · exact ask_undef 8 false rfl (fun _ _ => rfl) (fun val V hd => by have hj : val 8 = undef := depsAll_get hd 8 rfl; simp [yielded, hj, undef]) (fun _ => rfl)
        · exact ask_undef 8 false rfl (fun _ _ => rfl) (fun val V hd => by have hj : val 8 = undef := depsAll_get hd 8 rfl; simp [yielded, hj, undef]) (fun _ => rfl)
        · exact ask_undef 8 false rfl (fun _ _ => rfl) (fun val V hd => by have hj : val 8 = undef := depsAll_get hd 8 rfl; simp [yielded, hj, undef]) (fun _ => rfl)
        · exact ask_undef 8 false rfl (fun _ _ => rfl) (fun val V hd => by have hj : val 8 = undef := depsAll_get hd 8 rfl; simp [yielded, hj, undef]) (fun _ => rfl)
        · exact ask_undef 8 false rfl (fun _ _ => rfl) (fun val V hd => by have hj : val 8 = undef := depsAll_get hd 8 rfl; simp [yielded, hj, undef]) (fun _ => rfl)
        · exact ask_no 5 true false rfl (by decide) (fun _ _ => rfl) (fun val V hd => by have hj : val 5 = .bool false := depsAll_get hd 5 rfl; simp [yielded, hj]) (fun _ => rfl)
        · refine ask_plain rfl (fun _ _ => rfl) (fun val V hb hd => ?_)
          have h5 : val 5 = .bool false := depsAll_get hd 5 rfl
          have h20 : val 20 = undef := depsAll_get hd 20 rfl
          refine does_value (v := .bool false) ?_ rfl
          simp [execOp, Act.eval, h5, h20, go_sem]
        intro val V2 hb2 hR
        have h21 : val 21 = .bool false := hR 21 (by decide)
        have B2 := hid hb2
        clear hR hb2
        have BV : Hid (Below W.heap.size W V2) := B1.out.trans (B2.out.mono B1.out.size)
        gi_wp2
        rw [h21]
        gi_wp2
        exact ⟨keepsFrom_below BV.out, keepP_below BV.out hsw, _, KJ0.out.keep BV.out hsw (best_skip hk hj0 (.inl ⟨rfl, FR.out⟩) HE2.out) NO.out⟩
    · obtain ⟨p3, p4⟩ := HPL.out q0 hq2
      obtain ⟨fi, hfi⟩ : ∃ fi : Nat, ord.getD q0 0 = fi := ⟨(ord.getD q0 0).toNat, by omega⟩
      have HFI := hid hfi
      have hfl : fi < l.length := by omega
      have hfli : (fi : Int) < l.length := by omega
      have hfn : ((fi : Int) != -1) = true := by rw [bne_iff_ne]; omega
      have hfe : ((fi : Int) == -1) = false := by rw [beq_eq_false_iff_ne]; omega
      obtain ⟨tb2, tf2, a2, n2, c2, hta, htb2, q0', q1, q2, q3, q4⟩ := txc_row HT.out fi hfl
      have e1 : tb = tb2 := by injection hta with e; injection e
      have e2 : tf = tf2 := by injection hta with e; injection e
      subst e1 e2
      have z0 := cell_at hs HBW.out KJ0.out.kp q0'
      have z1 := cell_at hs HBW.out KJ0.out.kp q1
      have z2 := cell_at hs HBW.out KJ0.out.kp q2
      have z3 := cell_at hs HBW.out KJ0.out.kp q3
      have z4 := cell_at hs HBW.out KJ0.out.kp q4
      have HTF : Hid (atO l ord q0 = l.getD fi default) := by show txO l _ = _; unfold txO; rw [hfi]; rfl
      rw [hfi] at s2
      clear q0' q1 q2 q3 q4 hta p3 p4 htb2
      generalize hTFF : l.getD fi default = TF at *
      have HTFF := hid hTFF
      clear hTFF
      have HQM := hid hqm
      have HQE := hid hqe
      clear hqm hqe hfi
      have AHG : ∀ r, r = aheadM TF T → Hid (∀ V, Calls Try.prog 14 #[(.agg #[.int .i64 TF.1, .int .i64 TF.2.1, .int .i64 TF.2.2.1, .int .i64 TF.2.2.2.1, .slice a2 n2 c2]), (.agg #[.int .i64 T.1, .int .i64 T.2.1, .int .i64 T.2.2.1, .int .i64 T.2.2.2.1, .slice a1 n1 c1])] V fun e w' => e = .returned (.bool r) ∧ Below V.heap.size V w') := fun r hr V => before_is TF.1 TF.2.1 TF.2.2.1 TF.2.2.2.1 T.1 T.2.1 T.2.2.1 T.2.2.2.1 a2 a1 n2 c2 n1 c1 V r hr
      cases hA : aheadM TF T with
      | true =>
        have AH := AHG true hA.symm
        have HN : Hid (¬ noA l ord ord.length) := fun h => by
          have h2 := h q0 j0 (by omega) (by omega) hq2
          rw [HTX.out, HTF.out, hA] at h2
          cases h2
        clear AHG hA HEG
        (try gi_wp2)
        refine wpIn_region_ask id Try.mixedOrders (by kernel_rfl) (by kernel_rfl) (fun val => { tmps := #[_, _, _, _, _, _, _, _, _, _, _, _, val 0, val 1, val 2, val 3, val 4, val 5, val 6, val 7, val 8, val 9, val 10, val 11, val 12, _, _, _, _, _, _, _, _, _, _, _, _, _, _, _, _, _, _, _, _, _, _, _], defers := [] }) (fun i v _ => match i with | 0 => v = .int .i64 (fi : Int) | 1 => v = .bool true | 2 => v = .bool true | 3 => v = .slice (some ⟨tb, tf, none⟩) l.length tc | 4 => v = .int .i64 (fi : Int) | 5 => v = .pointer (some ⟨tb, tf + fi * 5, none⟩) | 6 => v = (.agg #[.int .i64 TF.1, .int .i64 TF.2.1, .int .i64 TF.2.2.1, .int .i64 TF.2.2.2.1, .slice a2 n2 c2]) | 7 => v = .slice (some ⟨tb, tf, none⟩) l.length tc | 8 => v = .int .i64 (j : Int) | 9 => v = .pointer (some ⟨tb, tf + j * 5, none⟩) | 10 => v = (.agg #[.int .i64 T.1, .int .i64 T.2.1, .int .i64 T.2.2.1, .int .i64 T.2.2.2.1, .slice a1 n1 c1]) | 11 => v = .bool true | 12 => v = .bool true | _ => True) (fun _ => undef) rfl (fun i v w w2 hv _ => hv) _ rfl ⟨?_, ?_, ?_, ?_, ?_, ?_, ?_, ?_, ?_, ?_, ?_, ?_, ?_, trivial⟩ ?_
        · refine ask_plain rfl (fun _ _ => rfl) (fun val V hb hd => ?_)
          have d := (hb.cell (p := ⟨s + 2, 0, none⟩) hs2l).trans s2
          refine does_value (v := .int .i64 (fi : Int)) ?_ rfl
          simp [execOp, Act.eval, go_sem, d]
        · refine ask_plain rfl (fun _ _ => rfl) (fun val V hb hd => ?_)
          have h0 : val 0 = .int .i64 (fi : Int) := depsAll_get hd 0 rfl
          refine does_value (v := .bool true) ?_ rfl
          simp [execOp, Act.eval, h0, hfn, go_sem]
        · refine ask_plain rfl (fun _ _ => rfl) (fun val V hb hd => ?_)
          have h1 : val 1 = .bool true := depsAll_get hd 1 rfl
          exact does_value rfl h1
        · refine ask_yes 2 true rfl (fun _ _ => rfl) (fun val V hd => by have hj : val 2 = .bool true := depsAll_get hd 2 rfl; simp [yielded, hj]) (fun val V hb hd => ?_)
          have d := (hb.cell (p := ⟨s, 0, none⟩) hs0l).trans s0
          refine does_value (v := .slice (some ⟨tb, tf, none⟩) l.length tc) ?_ rfl
          simp [execOp, Act.eval, go_sem, d]
        · refine ask_yes 2 true rfl (fun _ _ => rfl) (fun val V hd => by have hj : val 2 = .bool true := depsAll_get hd 2 rfl; simp [yielded, hj]) (fun val V hb hd => ?_)
          have d := (hb.cell (p := ⟨s + 2, 0, none⟩) hs2l).trans s2
          refine does_value (v := .int .i64 (fi : Int)) ?_ rfl
          simp [execOp, Act.eval, go_sem, d]
        · refine ask_yes 2 true rfl (fun _ _ => rfl) (fun val V hd => by have hj : val 2 = .bool true := depsAll_get hd 2 rfl; simp [yielded, hj]) (fun val V hb hd => ?_)
          have h0 : val 3 = .slice (some ⟨tb, tf, none⟩) l.length tc := depsAll_get hd 3 rfl
          have h1 : val 4 = .int .i64 (fi : Int) := depsAll_get hd 4 rfl
          refine does_value (v := .pointer (some ⟨tb, tf + fi * 5, none⟩)) ?_ rfl
          simp [execOp, Act.eval, h0, h1, go_sem, hfli]
        · refine ask_yes 2 true rfl (fun _ _ => rfl) (fun val V hd => by have hj : val 2 = .bool true := depsAll_get hd 2 rfl; simp [yielded, hj]) (fun val V hb hd => ?_)
          have h0 : val 5 = .pointer (some ⟨tb, tf + fi * 5, none⟩) := depsAll_get hd 5 rfl
          have d0 := (hb.cell (p := ⟨tb, tf + fi * 5, none⟩) htl).trans z0
          have d1 := (hb.cell (p := ⟨tb, tf + fi * 5 + 1, none⟩) htl).trans z1
          have d2 := (hb.cell (p := ⟨tb, tf + fi * 5 + 2, none⟩) htl).trans z2
          have d3 := (hb.cell (p := ⟨tb, tf + fi * 5 + 3, none⟩) htl).trans z3
          have d4 := (hb.cell (p := ⟨tb, tf + fi * 5 + 4, none⟩) htl).trans z4
          refine does_value (v := (.agg #[.int .i64 TF.1, .int .i64 TF.2.1, .int .i64 TF.2.2.1, .int .i64 TF.2.2.2.1, .slice a2 n2 c2])) ?_ rfl
          simp [execOp, Act.eval, h0, go_sem, d0, d1, d2, d3, d4]
        · refine ask_yes 2 true rfl (fun _ _ => rfl) (fun val V hd => by have hj : val 2 = .bool true := depsAll_get hd 2 rfl; simp [yielded, hj]) (fun val V hb hd => ?_)
          have d := (hb.cell (p := ⟨s, 0, none⟩) hs0l).trans s0
          refine does_value (v := .slice (some ⟨tb, tf, none⟩) l.length tc) ?_ rfl
          simp [execOp, Act.eval, go_sem, d]
        · refine ask_yes 2 true rfl (fun _ _ => rfl) (fun val V hd => by have hj : val 2 = .bool true := depsAll_get hd 2 rfl; simp [yielded, hj]) (fun val V hb hd => ?_)
          exact does_value rfl rfl
        · refine ask_yes 2 true rfl (fun _ _ => rfl) (fun val V hd => by have hj : val 2 = .bool true := depsAll_get hd 2 rfl; simp [yielded, hj]) (fun val V hb hd => ?_)
          have h0 : val 7 = .slice (some ⟨tb, tf, none⟩) l.length tc := depsAll_get hd 7 rfl
          have h1 : val 8 = .int .i64 (j : Int) := depsAll_get hd 8 rfl
          refine does_value (v := .pointer (some ⟨tb, tf + j * 5, none⟩)) ?_ rfl
          simp [execOp, Act.eval, h0, h1, go_sem, hjli]
        · refine ask_yes 2 true rfl (fun _ _ => rfl) (fun val V hd => by have hj : val 2 = .bool true := depsAll_get hd 2 rfl; simp [yielded, hj]) (fun val V hb hd => ?_)
          have h0 : val 9 = .pointer (some ⟨tb, tf + j * 5, none⟩) := depsAll_get hd 9 rfl
          have d0 := (hb.cell (p := ⟨tb, tf + j * 5, none⟩) htl).trans y0
          have d1 := (hb.cell (p := ⟨tb, tf + j * 5 + 1, none⟩) htl).trans y1
          have d2 := (hb.cell (p := ⟨tb, tf + j * 5 + 2, none⟩) htl).trans y2
          have d3 := (hb.cell (p := ⟨tb, tf + j * 5 + 3, none⟩) htl).trans y3
          have d4 := (hb.cell (p := ⟨tb, tf + j * 5 + 4, none⟩) htl).trans y4
          refine does_value (v := (.agg #[.int .i64 T.1, .int .i64 T.2.1, .int .i64 T.2.2.1, .int .i64 T.2.2.2.1, .slice a1 n1 c1])) ?_ rfl
          simp [execOp, Act.eval, h0, go_sem, d0, d1, d2, d3, d4]
        · refine ask_yes 2 true rfl (fun _ _ => rfl) (fun val V hd => by have hj : val 2 = .bool true := depsAll_get hd 2 rfl; simp [yielded, hj]) (fun val V hb hd => ?_)
          have h6 : val 6 = (.agg #[.int .i64 TF.1, .int .i64 TF.2.1, .int .i64 TF.2.2.1, .int .i64 TF.2.2.2.1, .slice a2 n2 c2]) := depsAll_get hd 6 rfl
          have h10 : val 10 = (.agg #[.int .i64 T.1, .int .i64 T.2.1, .int .i64 T.2.2.1, .int .i64 T.2.2.2.1, .slice a1 n1 c1]) := depsAll_get hd 10 rfl
          refine does_call (f := 14) (args := #[(.agg #[.int .i64 TF.1, .int .i64 TF.2.1, .int .i64 TF.2.2.1, .int .i64 TF.2.2.2.1, .slice a2 n2 c2]), (.agg #[.int .i64 T.1, .int .i64 T.2.1, .int .i64 T.2.2.1, .int .i64 T.2.2.2.1, .slice a1 n1 c1])]) ?_ (AH.out V) (fun e w2 h => ⟨_, h.1, rfl, h.2⟩)
          simp [execOp, Act.eval, h6, h10, go_sem]
        · refine ask_plain rfl (fun _ _ => rfl) (fun val V hb hd => ?_)
          have h2 : val 2 = .bool true := depsAll_get hd 2 rfl
          have h11 : val 11 = .bool true := depsAll_get hd 11 rfl
          refine does_value (v := .bool true) ?_ rfl
          simp [execOp, Act.eval, h2, h11, go_sem]
        intro val V1 hb1 hR
        have h12 : val 12 = .bool true := hR 12 (by decide)
        have B1 := hid hb1
        clear hR hb1
        have c1 : V1.cell? ⟨s + 1, 0, none⟩ = some (.bool false) := (B1.out.cell (p := ⟨s + 1, 0, none⟩) (show s + 1 < W.heap.size by omega)).trans (Lib.cell_of_heap KJ0.out.ans 0)
        have ha1 := (B1.out.block (s + 1) (by omega)).trans KJ0.out.ans
        have f1 : V1.frozen? ⟨s + 1, 0, none⟩ = false := Lib.frozen_of_heap ha1 0
        have HA1 := hid ha1
        clear ha1
        gi_wp2
        rw [h12]
        gi_wp2
        exact ⟨(keepsFrom_below B1.out).trans ((KeepsOthers.setCell _ _ _).from _), HN.out, by rw [Go.Joins.block_setCell HA1.out]; rfl, (KJ0.out.kp.trans (keepP_below B1.out hsw)).trans (keepP_set _ _ (.inl rfl))⟩
      | false =>
        have AH := AHG false hA.symm
        have NO : Hid (noA l ord (k + 1)) := noA_next hk hj0 hno0.out (some_free hk hj0 HQE.out HQM.out (by rw [HTX.out, HTF.out]; exact hA))
        clear AHG hA
        cases hE : endM T with
        | true =>
          have HE := HEG true hE.symm
          have HE2 : Hid (endM (atO l ord j0) = true) := by show _ = _; rw [HTX.out]; exact hE
          clear HEG hE
          by_cases hl2 : T.2.2.2.1 < TF.2.2.2.1
          · have hlt : decide (T.2.2.2.1 < TF.2.2.2.1) = true := decide_eq_true hl2
            have HL2 : Hid ((atO l ord j0).till < (atO l ord q0).till) := by show _ < _; rw [HTX.out, HTF.out]; exact hl2
            clear hl2
            (try gi_wp2)
            refine wpIn_region_ask id Try.mixedOrders (by kernel_rfl) (by kernel_rfl) (fun val => { tmps := #[_, _, _, _, _, _, _, _, _, _, _, _, val 0, val 1, val 2, val 3, val 4, val 5, val 6, val 7, val 8, val 9, val 10, val 11, val 12, _, _, _, _, _, _, _, _, _, _, _, _, _, _, _, _, _, _, _, _, _, _, _], defers := [] }) (fun i v _ => match i with | 0 => v = .int .i64 (fi : Int) | 1 => v = .bool true | 2 => v = .bool true | 3 => v = .slice (some ⟨tb, tf, none⟩) l.length tc | 4 => v = .int .i64 (fi : Int) | 5 => v = .pointer (some ⟨tb, tf + fi * 5, none⟩) | 6 => v = (.agg #[.int .i64 TF.1, .int .i64 TF.2.1, .int .i64 TF.2.2.1, .int .i64 TF.2.2.2.1, .slice a2 n2 c2]) | 7 => v = .slice (some ⟨tb, tf, none⟩) l.length tc | 8 => v = .int .i64 (j : Int) | 9 => v = .pointer (some ⟨tb, tf + j * 5, none⟩) | 10 => v = (.agg #[.int .i64 T.1, .int .i64 T.2.1, .int .i64 T.2.2.1, .int .i64 T.2.2.2.1, .slice a1 n1 c1]) | 11 => v = .bool false | 12 => v = .bool false | _ => True) (fun _ => undef) rfl (fun i v w w2 hv _ => hv) _ rfl ⟨?_, ?_, ?_, ?_, ?_, ?_, ?_, ?_, ?_, ?_, ?_, ?_, ?_, trivial⟩ ?_
            · refine ask_plain rfl (fun _ _ => rfl) (fun val V hb hd => ?_)
              have d := (hb.cell (p := ⟨s + 2, 0, none⟩) hs2l).trans s2
              refine does_value (v := .int .i64 (fi : Int)) ?_ rfl
              simp [execOp, Act.eval, go_sem, d]
            · refine ask_plain rfl (fun _ _ => rfl) (fun val V hb hd => ?_)
              have h0 : val 0 = .int .i64 (fi : Int) := depsAll_get hd 0 rfl
              refine does_value (v := .bool true) ?_ rfl
              simp [execOp, Act.eval, h0, hfn, go_sem]
            · refine ask_plain rfl (fun _ _ => rfl) (fun val V hb hd => ?_)
              have h1 : val 1 = .bool true := depsAll_get hd 1 rfl
              exact does_value rfl h1
            · refine ask_yes 2 true rfl (fun _ _ => rfl) (fun val V hd => by have hj : val 2 = .bool true := depsAll_get hd 2 rfl; simp [yielded, hj]) (fun val V hb hd => ?_)
              have d := (hb.cell (p := ⟨s, 0, none⟩) hs0l).trans s0
              refine does_value (v := .slice (some ⟨tb, tf, none⟩) l.length tc) ?_ rfl
              simp [execOp, Act.eval, go_sem, d]
            · refine ask_yes 2 true rfl (fun _ _ => rfl) (fun val V hd => by have hj : val 2 = .bool true := depsAll_get hd 2 rfl; simp [yielded, hj]) (fun val V hb hd => ?_)
              have d := (hb.cell (p := ⟨s + 2, 0, none⟩) hs2l).trans s2
              refine does_value (v := .int .i64 (fi : Int)) ?_ rfl
              simp [execOp, Act.eval, go_sem, d]
            · refine ask_yes 2 true rfl (fun _ _ => rfl) (fun val V hd => by have hj : val 2 = .bool true := depsAll_get hd 2 rfl; simp [yielded, hj]) (fun val V hb hd => ?_)
              have h0 : val 3 = .slice (some ⟨tb, tf, none⟩) l.length tc := depsAll_get hd 3 rfl
              have h1 : val 4 = .int .i64 (fi : Int) := depsAll_get hd 4 rfl
              refine does_value (v := .pointer (some ⟨tb, tf + fi * 5, none⟩)) ?_ rfl
              simp [execOp, Act.eval, h0, h1, go_sem, hfli]
            · refine ask_yes 2 true rfl (fun _ _ => rfl) (fun val V hd => by have hj : val 2 = .bool true := depsAll_get hd 2 rfl; simp [yielded, hj]) (fun val V hb hd => ?_)
              have h0 : val 5 = .pointer (some ⟨tb, tf + fi * 5, none⟩) := depsAll_get hd 5 rfl
              have d0 := (hb.cell (p := ⟨tb, tf + fi * 5, none⟩) htl).trans z0
              have d1 := (hb.cell (p := ⟨tb, tf + fi * 5 + 1, none⟩) htl).trans z1
              have d2 := (hb.cell (p := ⟨tb, tf + fi * 5 + 2, none⟩) htl).trans z2
              have d3 := (hb.cell (p := ⟨tb, tf + fi * 5 + 3, none⟩) htl).trans z3
              have d4 := (hb.cell (p := ⟨tb, tf + fi * 5 + 4, none⟩) htl).trans z4
              refine does_value (v := (.agg #[.int .i64 TF.1, .int .i64 TF.2.1, .int .i64 TF.2.2.1, .int .i64 TF.2.2.2.1, .slice a2 n2 c2])) ?_ rfl
              simp [execOp, Act.eval, h0, go_sem, d0, d1, d2, d3, d4]
            · refine ask_yes 2 true rfl (fun _ _ => rfl) (fun val V hd => by have hj : val 2 = .bool true := depsAll_get hd 2 rfl; simp [yielded, hj]) (fun val V hb hd => ?_)
              have d := (hb.cell (p := ⟨s, 0, none⟩) hs0l).trans s0
              refine does_value (v := .slice (some ⟨tb, tf, none⟩) l.length tc) ?_ rfl
              simp [execOp, Act.eval, go_sem, d]
            · refine ask_yes 2 true rfl (fun _ _ => rfl) (fun val V hd => by have hj : val 2 = .bool true := depsAll_get hd 2 rfl; simp [yielded, hj]) (fun val V hb hd => ?_)
              exact does_value rfl rfl
            · refine ask_yes 2 true rfl (fun _ _ => rfl) (fun val V hd => by have hj : val 2 = .bool true := depsAll_get hd 2 rfl; simp [yielded, hj]) (fun val V hb hd => ?_)
              have h0 : val 7 = .slice (some ⟨tb, tf, none⟩) l.length tc := depsAll_get hd 7 rfl
              have h1 : val 8 = .int .i64 (j : Int) := depsAll_get hd 8 rfl
              refine does_value (v := .pointer (some ⟨tb, tf + j * 5, none⟩)) ?_ rfl
              simp [execOp, Act.eval, h0, h1, go_sem, hjli]
            · refine ask_yes 2 true rfl (fun _ _ => rfl) (fun val V hd => by have hj : val 2 = .bool true := depsAll_get hd 2 rfl; simp [yielded, hj]) (fun val V hb hd => ?_)
              have h0 : val 9 = .pointer (some ⟨tb, tf + j * 5, none⟩) := depsAll_get hd 9 rfl
              have d0 := (hb.cell (p := ⟨tb, tf + j * 5, none⟩) htl).trans y0
              have d1 := (hb.cell (p := ⟨tb, tf + j * 5 + 1, none⟩) htl).trans y1
              have d2 := (hb.cell (p := ⟨tb, tf + j * 5 + 2, none⟩) htl).trans y2
              have d3 := (hb.cell (p := ⟨tb, tf + j * 5 + 3, none⟩) htl).trans y3
              have d4 := (hb.cell (p := ⟨tb, tf + j * 5 + 4, none⟩) htl).trans y4
              refine does_value (v := (.agg #[.int .i64 T.1, .int .i64 T.2.1, .int .i64 T.2.2.1, .int .i64 T.2.2.2.1, .slice a1 n1 c1])) ?_ rfl
              simp [execOp, Act.eval, h0, go_sem, d0, d1, d2, d3, d4]
            · refine ask_yes 2 true rfl (fun _ _ => rfl) (fun val V hd => by have hj : val 2 = .bool true := depsAll_get hd 2 rfl; simp [yielded, hj]) (fun val V hb hd => ?_)
              have h6 : val 6 = (.agg #[.int .i64 TF.1, .int .i64 TF.2.1, .int .i64 TF.2.2.1, .int .i64 TF.2.2.2.1, .slice a2 n2 c2]) := depsAll_get hd 6 rfl
              have h10 : val 10 = (.agg #[.int .i64 T.1, .int .i64 T.2.1, .int .i64 T.2.2.1, .int .i64 T.2.2.2.1, .slice a1 n1 c1]) := depsAll_get hd 10 rfl
              refine does_call (f := 14) (args := #[(.agg #[.int .i64 TF.1, .int .i64 TF.2.1, .int .i64 TF.2.2.1, .int .i64 TF.2.2.2.1, .slice a2 n2 c2]), (.agg #[.int .i64 T.1, .int .i64 T.2.1, .int .i64 T.2.2.1, .int .i64 T.2.2.2.1, .slice a1 n1 c1])]) ?_ (AH.out V) (fun e w2 h => ⟨_, h.1, rfl, h.2⟩)
              simp [execOp, Act.eval, h6, h10, go_sem]
            · refine ask_plain rfl (fun _ _ => rfl) (fun val V hb hd => ?_)
              have h2 : val 2 = .bool true := depsAll_get hd 2 rfl
              have h11 : val 11 = .bool false := depsAll_get hd 11 rfl
              refine does_value (v := .bool false) ?_ rfl
              simp [execOp, Act.eval, h2, h11, go_sem]
            intro val V1 hb1 hR
            have h12 : val 12 = .bool false := hR 12 (by decide)
            have B1 := hid hb1
            clear hR hb1
            gi_wp2
            rw [h12]
            gi_wp2
            replace s0 := (B1.out.cell (p := ⟨s, 0, none⟩) hs0l).trans s0
            replace s2 := (B1.out.cell (p := ⟨s + 2, 0, none⟩) hs2l).trans s2
            replace y0 := (B1.out.cell (p := ⟨tb, tf + j * 5, none⟩) htl).trans y0
            replace y1 := (B1.out.cell (p := ⟨tb, tf + j * 5 + 1, none⟩) htl).trans y1
            replace y2 := (B1.out.cell (p := ⟨tb, tf + j * 5 + 2, none⟩) htl).trans y2
            replace y3 := (B1.out.cell (p := ⟨tb, tf + j * 5 + 3, none⟩) htl).trans y3
            replace y4 := (B1.out.cell (p := ⟨tb, tf + j * 5 + 4, none⟩) htl).trans y4
            replace z0 := (B1.out.cell (p := ⟨tb, tf + fi * 5, none⟩) htl).trans z0
            replace z1 := (B1.out.cell (p := ⟨tb, tf + fi * 5 + 1, none⟩) htl).trans z1
            replace z2 := (B1.out.cell (p := ⟨tb, tf + fi * 5 + 2, none⟩) htl).trans z2
            replace z3 := (B1.out.cell (p := ⟨tb, tf + fi * 5 + 3, none⟩) htl).trans z3
            replace z4 := (B1.out.cell (p := ⟨tb, tf + fi * 5 + 4, none⟩) htl).trans z4
            replace hs0l := Nat.lt_of_lt_of_le hs0l B1.out.size
            replace hs2l := Nat.lt_of_lt_of_le hs2l B1.out.size
            replace htl := Nat.lt_of_lt_of_le htl B1.out.size
            (try gi_wp2)
            refine wpIn_region_ask id Try.mixedOrders (by kernel_rfl) (by kernel_rfl) (fun val => { tmps := #[_, _, _, _, _, _, _, _, _, _, _, _, _, _, _, _, _, _, _, _, _, _, _, _, _, val 0, val 1, val 2, val 3, val 4, val 5, val 6, val 7, val 8, val 9, val 10, val 11, val 12, val 13, val 14, val 15, val 16, val 17, val 18, val 19, val 20, val 21, _], defers := [] }) (fun i v _ => match i with | 0 => v = .slice (some ⟨tb, tf, none⟩) l.length tc | 1 => v = .int .i64 (j : Int) | 2 => v = .pointer (some ⟨tb, tf + j * 5, none⟩) | 3 => v = (.agg #[.int .i64 T.1, .int .i64 T.2.1, .int .i64 T.2.2.1, .int .i64 T.2.2.2.1, .slice a1 n1 c1]) | 4 => v = .bool true | 5 => v = .bool true | 6 => v = .int .i64 (fi : Int) | 7 => v = .bool false | 8 => v = .bool false | 9 => v = .slice (some ⟨tb, tf, none⟩) l.length tc | 10 => v = .int .i64 (j : Int) | 11 => v = .pointer (some ⟨tb, tf + j * 5, none⟩) | 12 => v = .pointer (some ⟨tb, tf + j * 5 + 3, none⟩) | 13 => v = .int .i64 T.2.2.2.1 | 14 => v = .slice (some ⟨tb, tf, none⟩) l.length tc | 15 => v = .int .i64 (fi : Int) | 16 => v = .pointer (some ⟨tb, tf + fi * 5, none⟩) | 17 => v = .pointer (some ⟨tb, tf + fi * 5 + 3, none⟩) | 18 => v = .int .i64 TF.2.2.2.1 | 19 => v = .bool true | 20 => v = .bool true | 21 => v = .bool true | _ => True) (fun _ => undef) rfl (fun i v w w2 hv _ => hv) _ rfl ⟨?_, ?_, ?_, ?_, ?_, ?_, ?_, ?_, ?_, ?_, ?_, ?_, ?_, ?_, ?_, ?_, ?_, ?_, ?_, ?_, ?_, ?_, trivial⟩ ?_
            · refine ask_plain rfl (fun _ _ => rfl) (fun val V hb hd => ?_)
              have d := (hb.cell (p := ⟨s, 0, none⟩) hs0l).trans s0
              refine does_value (v := .slice (some ⟨tb, tf, none⟩) l.length tc) ?_ rfl
              simp [execOp, Act.eval, go_sem, d]
            · refine ask_plain rfl (fun _ _ => rfl) (fun val V hb hd => ?_)
              exact does_value rfl rfl
            · refine ask_plain rfl (fun _ _ => rfl) (fun val V hb hd => ?_)
              have h0 : val 0 = .slice (some ⟨tb, tf, none⟩) l.length tc := depsAll_get hd 0 rfl
              have h1 : val 1 = .int .i64 (j : Int) := depsAll_get hd 1 rfl
              refine does_value (v := .pointer (some ⟨tb, tf + j * 5, none⟩)) ?_ rfl
              simp [execOp, Act.eval, h0, h1, go_sem, hjli]
            · refine ask_plain rfl (fun _ _ => rfl) (fun val V hb hd => ?_)
              have h0 : val 2 = .pointer (some ⟨tb, tf + j * 5, none⟩) := depsAll_get hd 2 rfl
              have d0 := (hb.cell (p := ⟨tb, tf + j * 5, none⟩) htl).trans y0
              have d1 := (hb.cell (p := ⟨tb, tf + j * 5 + 1, none⟩) htl).trans y1
              have d2 := (hb.cell (p := ⟨tb, tf + j * 5 + 2, none⟩) htl).trans y2
              have d3 := (hb.cell (p := ⟨tb, tf + j * 5 + 3, none⟩) htl).trans y3
              have d4 := (hb.cell (p := ⟨tb, tf + j * 5 + 4, none⟩) htl).trans y4
              refine does_value (v := (.agg #[.int .i64 T.1, .int .i64 T.2.1, .int .i64 T.2.2.1, .int .i64 T.2.2.2.1, .slice a1 n1 c1])) ?_ rfl
              simp [execOp, Act.eval, h0, go_sem, d0, d1, d2, d3, d4]
            · refine ask_plain rfl (fun _ _ => rfl) (fun val V hb hd => ?_)
              have h3 : val 3 = (.agg #[.int .i64 T.1, .int .i64 T.2.1, .int .i64 T.2.2.1, .int .i64 T.2.2.2.1, .slice a1 n1 c1]) := depsAll_get hd 3 rfl
              refine does_call (f := 15) (args := #[(.agg #[.int .i64 T.1, .int .i64 T.2.1, .int .i64 T.2.2.1, .int .i64 T.2.2.2.1, .slice a1 n1 c1])]) ?_ (HE.out V) (fun e w2 h => ⟨_, h.1, rfl, h.2⟩)
              simp [execOp, Act.eval, h3, go_sem]
            · refine ask_plain rfl (fun _ _ => rfl) (fun val V hb hd => ?_)
              have h4 : val 4 = .bool true := depsAll_get hd 4 rfl
              exact does_value rfl h4
            · refine ask_yes 5 true rfl (fun _ _ => rfl) (fun val V hd => by have hj : val 5 = .bool true := depsAll_get hd 5 rfl; simp [yielded, hj]) (fun val V hb hd => ?_)
              have d := (hb.cell (p := ⟨s + 2, 0, none⟩) hs2l).trans s2
              refine does_value (v := .int .i64 (fi : Int)) ?_ rfl
              simp [execOp, Act.eval, go_sem, d]
            · refine ask_yes 5 true rfl (fun _ _ => rfl) (fun val V hd => by have hj : val 5 = .bool true := depsAll_get hd 5 rfl; simp [yielded, hj]) (fun val V hb hd => ?_)
              have h6 : val 6 = .int .i64 (fi : Int) := depsAll_get hd 6 rfl
              refine does_value (v := .bool false) ?_ rfl
              simp [execOp, Act.eval, h6, hfe, go_sem]
            · refine ask_yes 5 true rfl (fun _ _ => rfl) (fun val V hd => by have hj : val 5 = .bool true := depsAll_get hd 5 rfl; simp [yielded, hj]) (fun val V hb hd => ?_)
              have h7 : val 7 = .bool false := depsAll_get hd 7 rfl
              exact does_value rfl h7
            · refine ask_yes 8 false rfl (fun _ _ => rfl) (fun val V hd => by have hj : val 8 = .bool false := depsAll_get hd 8 rfl; simp [yielded, hj]) (fun val V hb hd => ?_)
              have d := (hb.cell (p := ⟨s, 0, none⟩) hs0l).trans s0
              refine does_value (v := .slice (some ⟨tb, tf, none⟩) l.length tc) ?_ rfl
              simp [execOp, Act.eval, go_sem, d]
            · refine ask_yes 8 false rfl (fun _ _ => rfl) (fun val V hd => by have hj : val 8 = .bool false := depsAll_get hd 8 rfl; simp [yielded, hj]) (fun val V hb hd => ?_)
              exact does_value rfl rfl
            · refine ask_yes 8 false rfl (fun _ _ => rfl) (fun val V hd => by have hj : val 8 = .bool false := depsAll_get hd 8 rfl; simp [yielded, hj]) (fun val V hb hd => ?_)
              have h0 : val 9 = .slice (some ⟨tb, tf, none⟩) l.length tc := depsAll_get hd 9 rfl
              have h1 : val 10 = .int .i64 (j : Int) := depsAll_get hd 10 rfl
              refine does_value (v := .pointer (some ⟨tb, tf + j * 5, none⟩)) ?_ rfl
              simp [execOp, Act.eval, h0, h1, go_sem, hjli]
            · refine ask_yes 8 false rfl (fun _ _ => rfl) (fun val V hd => by have hj : val 8 = .bool false := depsAll_get hd 8 rfl; simp [yielded, hj]) (fun val V hb hd => ?_)
              have h11 : val 11 = .pointer (some ⟨tb, tf + j * 5, none⟩) := depsAll_get hd 11 rfl
              refine does_value (v := .pointer (some ⟨tb, tf + j * 5 + 3, none⟩)) ?_ rfl
              simp [execOp, Act.eval, h11, go_sem]
            · refine ask_yes 8 false rfl (fun _ _ => rfl) (fun val V hd => by have hj : val 8 = .bool false := depsAll_get hd 8 rfl; simp [yielded, hj]) (fun val V hb hd => ?_)
              have h12 : val 12 = .pointer (some ⟨tb, tf + j * 5 + 3, none⟩) := depsAll_get hd 12 rfl
              have d := (hb.cell (p := ⟨tb, tf + j * 5 + 3, none⟩) htl).trans y3
              refine does_value (v := .int .i64 T.2.2.2.1) ?_ rfl
              simp [execOp, Act.eval, h12, d, go_sem]
            · refine ask_yes 8 false rfl (fun _ _ => rfl) (fun val V hd => by have hj : val 8 = .bool false := depsAll_get hd 8 rfl; simp [yielded, hj]) (fun val V hb hd => ?_)
              have d := (hb.cell (p := ⟨s, 0, none⟩) hs0l).trans s0
              refine does_value (v := .slice (some ⟨tb, tf, none⟩) l.length tc) ?_ rfl
              simp [execOp, Act.eval, go_sem, d]
            · refine ask_yes 8 false rfl (fun _ _ => rfl) (fun val V hd => by have hj : val 8 = .bool false := depsAll_get hd 8 rfl; simp [yielded, hj]) (fun val V hb hd => ?_)
              have d := (hb.cell (p := ⟨s + 2, 0, none⟩) hs2l).trans s2
              refine does_value (v := .int .i64 (fi : Int)) ?_ rfl
              simp [execOp, Act.eval, go_sem, d]
            · refine ask_yes 8 false rfl (fun _ _ => rfl) (fun val V hd => by have hj : val 8 = .bool false := depsAll_get hd 8 rfl; simp [yielded, hj]) (fun val V hb hd => ?_)
              have h0 : val 14 = .slice (some ⟨tb, tf, none⟩) l.length tc := depsAll_get hd 14 rfl
              have h1 : val 15 = .int .i64 (fi : Int) := depsAll_get hd 15 rfl
              refine does_value (v := .pointer (some ⟨tb, tf + fi * 5, none⟩)) ?_ rfl
              simp [execOp, Act.eval, h0, h1, go_sem, hfli]
            · refine ask_yes 8 false rfl (fun _ _ => rfl) (fun val V hd => by have hj : val 8 = .bool false := depsAll_get hd 8 rfl; simp [yielded, hj]) (fun val V hb hd => ?_)
              have h16 : val 16 = .pointer (some ⟨tb, tf + fi * 5, none⟩) := depsAll_get hd 16 rfl
              refine does_value (v := .pointer (some ⟨tb, tf + fi * 5 + 3, none⟩)) ?_ rfl
              simp [execOp, Act.eval, h16, go_sem]
            · refine ask_yes 8 false rfl (fun _ _ => rfl) (fun val V hd => by have hj : val 8 = .bool false := depsAll_get hd 8 rfl; simp [yielded, hj]) (fun val V hb hd => ?_)
              have h17 : val 17 = .pointer (some ⟨tb, tf + fi * 5 + 3, none⟩) := depsAll_get hd 17 rfl
              have d := (hb.cell (p := ⟨tb, tf + fi * 5 + 3, none⟩) htl).trans z3
              refine does_value (v := .int .i64 TF.2.2.2.1) ?_ rfl
              simp [execOp, Act.eval, h17, d, go_sem]
            · refine ask_yes 8 false rfl (fun _ _ => rfl) (fun val V hd => by have hj : val 8 = .bool false := depsAll_get hd 8 rfl; simp [yielded, hj]) (fun val V hb hd => ?_)
              have h13 : val 13 = .int .i64 T.2.2.2.1 := depsAll_get hd 13 rfl
              have h18 : val 18 = .int .i64 TF.2.2.2.1 := depsAll_get hd 18 rfl
              refine does_value (v := .bool true) ?_ rfl
              simp [execOp, Act.eval, h13, h18, hlt, go_sem]
            · refine ask_yes 5 true rfl (fun _ _ => rfl) (fun val V hd => by have hj : val 5 = .bool true := depsAll_get hd 5 rfl; simp [yielded, hj]) (fun val V hb hd => ?_)
              have h8 : val 8 = .bool false := depsAll_get hd 8 rfl
              have h19 : val 19 = .bool true := depsAll_get hd 19 rfl
              refine does_value (v := .bool true) ?_ rfl
              simp [execOp, Act.eval, h8, h19, go_sem]
            · refine ask_plain rfl (fun _ _ => rfl) (fun val V hb hd => ?_)
              have h5 : val 5 = .bool true := depsAll_get hd 5 rfl
              have h20 : val 20 = .bool true := depsAll_get hd 20 rfl
              refine does_value (v := .bool true) ?_ rfl
              simp [execOp, Act.eval, h5, h20, go_sem]
            intro val V2 hb2 hR
            have h21 : val 21 = .bool true := hR 21 (by decide)
            have B2 := hid hb2
            clear hR hb2
            have BV : Hid (Below W.heap.size W V2) := B1.out.trans (B2.out.mono B1.out.size)
            have c2 : V2.cell? ⟨s + 2, 0, none⟩ = some (.int .i64 (fi : Int)) := (B2.out.cell (p := ⟨s + 2, 0, none⟩) hs2l).trans s2
            have fz : V2.frozen? ⟨s + 2, 0, none⟩ = false := Lib.frozen_of_heap ((BV.out.block _ (by omega)).trans KJ0.out.fst) 0
            gi_wp2
            rw [h21]
            gi_wp2
            exact ⟨(keepsFrom_below BV.out).trans ((KeepsOthers.setCell _ _ _).from _), (keepP_below BV.out hsw).trans (keepP_set _ _ (.inr rfl)), _, KJ0.out.set BV.out hsw (by rw [← HJ.out]; exact best_less hk hj0 HQM.out HE2.out HL2.out) NO.out⟩
          · have hlt : decide (T.2.2.2.1 < TF.2.2.2.1) = false := decide_eq_false hl2
            have HL2 : Hid (¬ (atO l ord j0).till < (atO l ord q0).till) := by show ¬ _ < _; rw [HTX.out, HTF.out]; exact hl2
            clear hl2
            (try gi_wp2)
            refine wpIn_region_ask id Try.mixedOrders (by kernel_rfl) (by kernel_rfl) (fun val => { tmps := #[_, _, _, _, _, _, _, _, _, _, _, _, val 0, val 1, val 2, val 3, val 4, val 5, val 6, val 7, val 8, val 9, val 10, val 11, val 12, _, _, _, _, _, _, _, _, _, _, _, _, _, _, _, _, _, _, _, _, _, _, _], defers := [] }) (fun i v _ => match i with | 0 => v = .int .i64 (fi : Int) | 1 => v = .bool true | 2 => v = .bool true | 3 => v = .slice (some ⟨tb, tf, none⟩) l.length tc | 4 => v = .int .i64 (fi : Int) | 5 => v = .pointer (some ⟨tb, tf + fi * 5, none⟩) | 6 => v = (.agg #[.int .i64 TF.1, .int .i64 TF.2.1, .int .i64 TF.2.2.1, .int .i64 TF.2.2.2.1, .slice a2 n2 c2]) | 7 => v = .slice (some ⟨tb, tf, none⟩) l.length tc | 8 => v = .int .i64 (j : Int) | 9 => v = .pointer (some ⟨tb, tf + j * 5, none⟩) | 10 => v = (.agg #[.int .i64 T.1, .int .i64 T.2.1, .int .i64 T.2.2.1, .int .i64 T.2.2.2.1, .slice a1 n1 c1]) | 11 => v = .bool false | 12 => v = .bool false | _ => True) (fun _ => undef) rfl (fun i v w w2 hv _ => hv) _ rfl ⟨?_, ?_, ?_, ?_, ?_, ?_, ?_, ?_, ?_, ?_, ?_, ?_, ?_, trivial⟩ ?_
            · refine ask_plain rfl (fun _ _ => rfl) (fun val V hb hd => ?_)
              have d := (hb.cell (p := ⟨s + 2, 0, none⟩) hs2l).trans s2
              refine does_value (v := .int .i64 (fi : Int)) ?_ rfl
              simp [execOp, Act.eval, go_sem, d]
            · refine ask_plain rfl (fun _ _ => rfl) (fun val V hb hd => ?_)
              have h0 : val 0 = .int .i64 (fi : Int) := depsAll_get hd 0 rfl
              refine does_value (v := .bool true) ?_ rfl
              simp [execOp, Act.eval, h0, hfn, go_sem]
            · refine ask_plain rfl (fun _ _ => rfl) (fun val V hb hd => ?_)
              have h1 : val 1 = .bool true := depsAll_get hd 1 rfl
              exact does_value rfl h1
            · refine ask_yes 2 true rfl (fun _ _ => rfl) (fun val V hd => by have hj : val 2 = .bool true := depsAll_get hd 2 rfl; simp [yielded, hj]) (fun val V hb hd => ?_)
              have d := (hb.cell (p := ⟨s, 0, none⟩) hs0l).trans s0
              refine does_value (v := .slice (some ⟨tb, tf, none⟩) l.length tc) ?_ rfl
              simp [execOp, Act.eval, go_sem, d]
            · refine ask_yes 2 true rfl (fun _ _ => rfl) (fun val V hd => by have hj : val 2 = .bool true := depsAll_get hd 2 rfl; simp [yielded, hj]) (fun val V hb hd => ?_)
              have d := (hb.cell (p := ⟨s + 2, 0, none⟩) hs2l).trans s2
              refine does_value (v := .int .i64 (fi : Int)) ?_ rfl
              simp [execOp, Act.eval, go_sem, d]
            · refine ask_yes 2 true rfl (fun _ _ => rfl) (fun val V hd => by have hj : val 2 = .bool true := depsAll_get hd 2 rfl; simp [yielded, hj]) (fun val V hb hd => ?_)
              have h0 : val 3 = .slice (some ⟨tb, tf, none⟩) l.length tc := depsAll_get hd 3 rfl
              have h1 : val 4 = .int .i64 (fi : Int) := depsAll_get hd 4 rfl
              refine does_value (v := .pointer (some ⟨tb, tf + fi * 5, none⟩)) ?_ rfl
              simp [execOp, Act.eval, h0, h1, go_sem, hfli]
            · refine ask_yes 2 true rfl (fun _ _ => rfl) (fun val V hd => by have hj : val 2 = .bool true := depsAll_get hd 2 rfl; simp [yielded, hj]) (fun val V hb hd => ?_)
              have h0 : val 5 = .pointer (some ⟨tb, tf + fi * 5, none⟩) := depsAll_get hd 5 rfl
              have d0 := (hb.cell (p := ⟨tb, tf + fi * 5, none⟩) htl).trans z0
              have d1 := (hb.cell (p := ⟨tb, tf + fi * 5 + 1, none⟩) htl).trans z1
              have d2 := (hb.cell (p := ⟨tb, tf + fi * 5 + 2, none⟩) htl).trans z2
              have d3 := (hb.cell (p := ⟨tb, tf + fi * 5 + 3, none⟩) htl).trans z3
              have d4 := (hb.cell (p := ⟨tb, tf + fi * 5 + 4, none⟩) htl).trans z4
              refine does_value (v := (.agg #[.int .i64 TF.1, .int .i64 TF.2.1, .int .i64 TF.2.2.1, .int .i64 TF.2.2.2.1, .slice a2 n2 c2])) ?_ rfl
              simp [execOp, Act.eval, h0, go_sem, d0, d1, d2, d3, d4]
            · refine ask_yes 2 true rfl (fun _ _ => rfl) (fun val V hd => by have hj : val 2 = .bool true := depsAll_get hd 2 rfl; simp [yielded, hj]) (fun val V hb hd => ?_)
              have d := (hb.cell (p := ⟨s, 0, none⟩) hs0l).trans s0
              refine does_value (v := .slice (some ⟨tb, tf, none⟩) l.length tc) ?_ rfl
              simp [execOp, Act.eval, go_sem, d]
            · refine ask_yes 2 true rfl (fun _ _ => rfl) (fun val V hd => by have hj : val 2 = .bool true := depsAll_get hd 2 rfl; simp [yielded, hj]) (fun val V hb hd => ?_)
              exact does_value rfl rfl
            · refine ask_yes 2 true rfl (fun _ _ => rfl) (fun val V hd => by have hj : val 2 = .bool true := depsAll_get hd 2 rfl; simp [yielded, hj]) (fun val V hb hd => ?_)
              have h0 : val 7 = .slice (some ⟨tb, tf, none⟩) l.length tc := depsAll_get hd 7 rfl
              have h1 : val 8 = .int .i64 (j : Int) := depsAll_get hd 8 rfl
              refine does_value (v := .pointer (some ⟨tb, tf + j * 5, none⟩)) ?_ rfl
              simp [execOp, Act.eval, h0, h1, go_sem, hjli]
            · refine ask_yes 2 true rfl (fun _ _ => rfl) (fun val V hd => by have hj : val 2 = .bool true := depsAll_get hd 2 rfl; simp [yielded, hj]) (fun val V hb hd => ?_)
              have h0 : val 9 = .pointer (some ⟨tb, tf + j * 5, none⟩) := depsAll_get hd 9 rfl
              have d0 := (hb.cell (p := ⟨tb, tf + j * 5, none⟩) htl).trans y0
              have d1 := (hb.cell (p := ⟨tb, tf + j * 5 + 1, none⟩) htl).trans y1
              have d2 := (hb.cell (p := ⟨tb, tf + j * 5 + 2, none⟩) htl).trans y2
              have d3 := (hb.cell (p := ⟨tb, tf + j * 5 + 3, none⟩) htl).trans y3
              have d4 := (hb.cell (p := ⟨tb, tf + j * 5 + 4, none⟩) htl).trans y4
              refine does_value (v := (.agg #[.int .i64 T.1, .int .i64 T.2.1, .int .i64 T.2.2.1, .int .i64 T.2.2.2.1, .slice a1 n1 c1])) ?_ rfl
              simp [execOp, Act.eval, h0, go_sem, d0, d1, d2, d3, d4]
            · refine ask_yes 2 true rfl (fun _ _ => rfl) (fun val V hd => by have hj : val 2 = .bool true := depsAll_get hd 2 rfl; simp [yielded, hj]) (fun val V hb hd => ?_)
              have h6 : val 6 = (.agg #[.int .i64 TF.1, .int .i64 TF.2.1, .int .i64 TF.2.2.1, .int .i64 TF.2.2.2.1, .slice a2 n2 c2]) := depsAll_get hd 6 rfl
              have h10 : val 10 = (.agg #[.int .i64 T.1, .int .i64 T.2.1, .int .i64 T.2.2.1, .int .i64 T.2.2.2.1, .slice a1 n1 c1]) := depsAll_get hd 10 rfl
              refine does_call (f := 14) (args := #[(.agg #[.int .i64 TF.1, .int .i64 TF.2.1, .int .i64 TF.2.2.1, .int .i64 TF.2.2.2.1, .slice a2 n2 c2]), (.agg #[.int .i64 T.1, .int .i64 T.2.1, .int .i64 T.2.2.1, .int .i64 T.2.2.2.1, .slice a1 n1 c1])]) ?_ (AH.out V) (fun e w2 h => ⟨_, h.1, rfl, h.2⟩)
              simp [execOp, Act.eval, h6, h10, go_sem]
            · refine ask_plain rfl (fun _ _ => rfl) (fun val V hb hd => ?_)
              have h2 : val 2 = .bool true := depsAll_get hd 2 rfl
              have h11 : val 11 = .bool false := depsAll_get hd 11 rfl
              refine does_value (v := .bool false) ?_ rfl
              simp [execOp, Act.eval, h2, h11, go_sem]
            intro val V1 hb1 hR
            have h12 : val 12 = .bool false := hR 12 (by decide)
            have B1 := hid hb1
            clear hR hb1
            gi_wp2
            rw [h12]
            gi_wp2
            replace s0 := (B1.out.cell (p := ⟨s, 0, none⟩) hs0l).trans s0
            replace s2 := (B1.out.cell (p := ⟨s + 2, 0, none⟩) hs2l).trans s2
            replace y0 := (B1.out.cell (p := ⟨tb, tf + j * 5, none⟩) htl).trans y0
            replace y1 := (B1.out.cell (p := ⟨tb, tf + j * 5 + 1, none⟩) htl).trans y1
            replace y2 := (B1.out.cell (p := ⟨tb, tf + j * 5 + 2, none⟩) htl).trans y2
            replace y3 := (B1.out.cell (p := ⟨tb, tf + j * 5 + 3, none⟩) htl).trans y3
            replace y4 := (B1.out.cell (p := ⟨tb, tf + j * 5 + 4, none⟩) htl).trans y4
            replace z0 := (B1.out.cell (p := ⟨tb, tf + fi * 5, none⟩) htl).trans z0
            replace z1 := (B1.out.cell (p := ⟨tb, tf + fi * 5 + 1, none⟩) htl).trans z1
            replace z2 := (B1.out.cell (p := ⟨tb, tf + fi * 5 + 2, none⟩) htl).trans z2
            replace z3 := (B1.out.cell (p := ⟨tb, tf + fi * 5 + 3, none⟩) htl).trans z3
            replace z4 := (B1.out.cell (p := ⟨tb, tf + fi * 5 + 4, none⟩) htl).trans z4
            replace hs0l := Nat.lt_of_lt_of_le hs0l B1.out.size
            replace hs2l := Nat.lt_of_lt_of_le hs2l B1.out.size
            replace htl := Nat.lt_of_lt_of_le htl B1.out.size
            (try gi_wp2)
            refine wpIn_region_ask id Try.mixedOrders (by kernel_rfl) (by kernel_rfl) (fun val => { tmps := #[_, _, _, _, _, _, _, _, _, _, _, _, _, _, _, _, _, _, _, _, _, _, _, _, _, val 0, val 1, val 2, val 3, val 4, val 5, val 6, val 7, val 8, val 9, val 10, val 11, val 12, val 13, val 14, val 15, val 16, val 17, val 18, val 19, val 20, val 21, _], defers := [] }) (fun i v _ => match i with | 0 => v = .slice (some ⟨tb, tf, none⟩) l.length tc | 1 => v = .int .i64 (j : Int) | 2 => v = .pointer (some ⟨tb, tf + j * 5, none⟩) | 3 => v = (.agg #[.int .i64 T.1, .int .i64 T.2.1, .int .i64 T.2.2.1, .int .i64 T.2.2.2.1, .slice a1 n1 c1]) | 4 => v = .bool true | 5 => v = .bool true | 6 => v = .int .i64 (fi : Int) | 7 => v = .bool false | 8 => v = .bool false | 9 => v = .slice (some ⟨tb, tf, none⟩) l.length tc | 10 => v = .int .i64 (j : Int) | 11 => v = .pointer (some ⟨tb, tf + j * 5, none⟩) | 12 => v = .pointer (some ⟨tb, tf + j * 5 + 3, none⟩) | 13 => v = .int .i64 T.2.2.2.1 | 14 => v = .slice (some ⟨tb, tf, none⟩) l.length tc | 15 => v = .int .i64 (fi : Int) | 16 => v = .pointer (some ⟨tb, tf + fi * 5, none⟩) | 17 => v = .pointer (some ⟨tb, tf + fi * 5 + 3, none⟩) | 18 => v = .int .i64 TF.2.2.2.1 | 19 => v = .bool false | 20 => v = .bool false | 21 => v = .bool false | _ => True) (fun _ => undef) rfl (fun i v w w2 hv _ => hv) _ rfl ⟨?_, ?_, ?_, ?_, ?_, ?_, ?_, ?_, ?_, ?_, ?_, ?_, ?_, ?_, ?_, ?_, ?_, ?_, ?_, ?_, ?_, ?_, trivial⟩ ?_
            · refine ask_plain rfl (fun _ _ => rfl) (fun val V hb hd => ?_)
              have d := (hb.cell (p := ⟨s, 0, none⟩) hs0l).trans s0
              refine does_value (v := .slice (some ⟨tb, tf, none⟩) l.length tc) ?_ rfl
              simp [execOp, Act.eval, go_sem, d]
            · refine ask_plain rfl (fun _ _ => rfl) (fun val V hb hd => ?_)
              exact does_value rfl rfl
            · refine ask_plain rfl (fun _ _ => rfl) (fun val V hb hd => ?_)
              have h0 : val 0 = .slice (some ⟨tb, tf, none⟩) l.length tc := depsAll_get hd 0 rfl
              have h1 : val 1 = .int .i64 (j : Int) := depsAll_get hd 1 rfl
              refine does_value (v := .pointer (some ⟨tb, tf + j * 5, none⟩)) ?_ rfl
              simp [execOp, Act.eval, h0, h1, go_sem, hjli]
            · refine ask_plain rfl (fun _ _ => rfl) (fun val V hb hd => ?_)
              have h0 : val 2 = .pointer (some ⟨tb, tf + j * 5, none⟩) := depsAll_get hd 2 rfl
              have d0 := (hb.cell (p := ⟨tb, tf + j * 5, none⟩) htl).trans y0
              have d1 := (hb.cell (p := ⟨tb, tf + j * 5 + 1, none⟩) htl).trans y1
              have d2 := (hb.cell (p := ⟨tb, tf + j * 5 + 2, none⟩) htl).trans y2
              have d3 := (hb.cell (p := ⟨tb, tf + j * 5 + 3, none⟩) htl).trans y3
              have d4 := (hb.cell (p := ⟨tb, tf + j * 5 + 4, none⟩) htl).trans y4
              refine does_value (v := (.agg #[.int .i64 T.1, .int .i64 T.2.1, .int .i64 T.2.2.1, .int .i64 T.2.2.2.1, .slice a1 n1 c1])) ?_ rfl
              simp [execOp, Act.eval, h0, go_sem, d0, d1, d2, d3, d4]
            · refine ask_plain rfl (fun _ _ => rfl) (fun val V hb hd => ?_)
              have h3 : val 3 = (.agg #[.int .i64 T.1, .int .i64 T.2.1, .int .i64 T.2.2.1, .int .i64 T.2.2.2.1, .slice a1 n1 c1]) := depsAll_get hd 3 rfl
              refine does_call (f := 15) (args := #[(.agg #[.int .i64 T.1, .int .i64 T.2.1, .int .i64 T.2.2.1, .int .i64 T.2.2.2.1, .slice a1 n1 c1])]) ?_ (HE.out V) (fun e w2 h => ⟨_, h.1, rfl, h.2⟩)
              simp [execOp, Act.eval, h3, go_sem]
            · refine ask_plain rfl (fun _ _ => rfl) (fun val V hb hd => ?_)
              have h4 : val 4 = .bool true := depsAll_get hd 4 rfl
              exact does_value rfl h4
            · refine ask_yes 5 true rfl (fun _ _ => rfl) (fun val V hd => by have hj : val 5 = .bool true := depsAll_get hd 5 rfl; simp [yielded, hj]) (fun val V hb hd => ?_)
              have d := (hb.cell (p := ⟨s + 2, 0, none⟩) hs2l).trans s2
              refine does_value (v := .int .i64 (fi : Int)) ?_ rfl
              simp [execOp, Act.eval, go_sem, d]
            · refine ask_yes 5 true rfl (fun _ _ => rfl) (fun val V hd => by have hj : val 5 = .bool true := depsAll_get hd 5 rfl; simp [yielded, hj]) (fun val V hb hd => ?_)
              have h6 : val 6 = .int .i64 (fi : Int) := depsAll_get hd 6 rfl
              refine does_value (v := .bool false) ?_ rfl
              simp [execOp, Act.eval, h6, hfe, go_sem]
            · refine ask_yes 5 true rfl (fun _ _ => rfl) (fun val V hd => by have hj : val 5 = .bool true := depsAll_get hd 5 rfl; simp [yielded, hj]) (fun val V hb hd => ?_)
              have h7 : val 7 = .bool false := depsAll_get hd 7 rfl
              exact does_value rfl h7
            · refine ask_yes 8 false rfl (fun _ _ => rfl) (fun val V hd => by have hj : val 8 = .bool false := depsAll_get hd 8 rfl; simp [yielded, hj]) (fun val V hb hd => ?_)
              have d := (hb.cell (p := ⟨s, 0, none⟩) hs0l).trans s0
              refine does_value (v := .slice (some ⟨tb, tf, none⟩) l.length tc) ?_ rfl
              simp [execOp, Act.eval, go_sem, d]
            · refine ask_yes 8 false rfl (fun _ _ => rfl) (fun val V hd => by have hj : val 8 = .bool false := depsAll_get hd 8 rfl; simp [yielded, hj]) (fun val V hb hd => ?_)
              exact does_value rfl rfl
            · refine ask_yes 8 false rfl (fun _ _ => rfl) (fun val V hd => by have hj : val 8 = .bool false := depsAll_get hd 8 rfl; simp [yielded, hj]) (fun val V hb hd => ?_)
              have h0 : val 9 = .slice (some ⟨tb, tf, none⟩) l.length tc := depsAll_get hd 9 rfl
              have h1 : val 10 = .int .i64 (j : Int) := depsAll_get hd 10 rfl
              refine does_value (v := .pointer (some ⟨tb, tf + j * 5, none⟩)) ?_ rfl
              simp [execOp, Act.eval, h0, h1, go_sem, hjli]
            · refine ask_yes 8 false rfl (fun _ _ => rfl) (fun val V hd => by have hj : val 8 = .bool false := depsAll_get hd 8 rfl; simp [yielded, hj]) (fun val V hb hd => ?_)
              have h11 : val 11 = .pointer (some ⟨tb, tf + j * 5, none⟩) := depsAll_get hd 11 rfl
              refine does_value (v := .pointer (some ⟨tb, tf + j * 5 + 3, none⟩)) ?_ rfl
              simp [execOp, Act.eval, h11, go_sem]
            · refine ask_yes 8 false rfl (fun _ _ => rfl) (fun val V hd => by have hj : val 8 = .bool false := depsAll_get hd 8 rfl; simp [yielded, hj]) (fun val V hb hd => ?_)
              have h12 : val 12 = .pointer (some ⟨tb, tf + j * 5 + 3, none⟩) := depsAll_get hd 12 rfl
              have d := (hb.cell (p := ⟨tb, tf + j * 5 + 3, none⟩) htl).trans y3
              refine does_value (v := .int .i64 T.2.2.2.1) ?_ rfl
              simp [execOp, Act.eval, h12, d, go_sem]
            · refine ask_yes 8 false rfl (fun _ _ => rfl) (fun val V hd => by have hj : val 8 = .bool false := depsAll_get hd 8 rfl; simp [yielded, hj]) (fun val V hb hd => ?_)
              have d := (hb.cell (p := ⟨s, 0, none⟩) hs0l).trans s0
              refine does_value (v := .slice (some ⟨tb, tf, none⟩) l.length tc) ?_ rfl
              simp [execOp, Act.eval, go_sem, d]
            · refine ask_yes 8 false rfl (fun _ _ => rfl) (fun val V hd => by have hj : val 8 = .bool false := depsAll_get hd 8 rfl; simp [yielded, hj]) (fun val V hb hd => ?_)
              have d := (hb.cell (p := ⟨s + 2, 0, none⟩) hs2l).trans s2
              refine does_value (v := .int .i64 (fi : Int)) ?_ rfl
              simp [execOp, Act.eval, go_sem, d]
            · refine ask_yes 8 false rfl (fun _ _ => rfl) (fun val V hd => by have hj : val 8 = .bool false := depsAll_get hd 8 rfl; simp [yielded, hj]) (fun val V hb hd => ?_)
              have h0 : val 14 = .slice (some ⟨tb, tf, none⟩) l.length tc := depsAll_get hd 14 rfl
              have h1 : val 15 = .int .i64 (fi : Int) := depsAll_get hd 15 rfl
              refine does_value (v := .pointer (some ⟨tb, tf + fi * 5, none⟩)) ?_ rfl
              simp [execOp, Act.eval, h0, h1, go_sem, hfli]
            · refine ask_yes 8 false rfl (fun _ _ => rfl) (fun val V hd => by have hj : val 8 = .bool false := depsAll_get hd 8 rfl; simp [yielded, hj]) (fun val V hb hd => ?_)
              have h16 : val 16 = .pointer (some ⟨tb, tf + fi * 5, none⟩) := depsAll_get hd 16 rfl
              refine does_value (v := .pointer (some ⟨tb, tf + fi * 5 + 3, none⟩)) ?_ rfl
              simp [execOp, Act.eval, h16, go_sem]
            · refine ask_yes 8 false rfl (fun _ _ => rfl) (fun val V hd => by have hj : val 8 = .bool false := depsAll_get hd 8 rfl; simp [yielded, hj]) (fun val V hb hd => ?_)
              have h17 : val 17 = .pointer (some ⟨tb, tf + fi * 5 + 3, none⟩) := depsAll_get hd 17 rfl
              have d := (hb.cell (p := ⟨tb, tf + fi * 5 + 3, none⟩) htl).trans z3
              refine does_value (v := .int .i64 TF.2.2.2.1) ?_ rfl
              simp [execOp, Act.eval, h17, d, go_sem]
            · refine ask_yes 8 false rfl (fun _ _ => rfl) (fun val V hd => by have hj : val 8 = .bool false := depsAll_get hd 8 rfl; simp [yielded, hj]) (fun val V hb hd => ?_)
              have h13 : val 13 = .int .i64 T.2.2.2.1 := depsAll_get hd 13 rfl
              have h18 : val 18 = .int .i64 TF.2.2.2.1 := depsAll_get hd 18 rfl
              refine does_value (v := .bool false) ?_ rfl
              simp [execOp, Act.eval, h13, h18, hlt, go_sem]
            · refine ask_yes 5 true rfl (fun _ _ => rfl) (fun val V hd => by have hj : val 5 = .bool true := depsAll_get hd 5 rfl; simp [yielded, hj]) (fun val V hb hd => ?_)
              have h8 : val 8 = .bool false := depsAll_get hd 8 rfl
              have h19 : val 19 = .bool false := depsAll_get hd 19 rfl
              refine does_value (v := .bool false) ?_ rfl
              simp [execOp, Act.eval, h8, h19, go_sem]
            · refine ask_plain rfl (fun _ _ => rfl) (fun val V hb hd => ?_)
              have h5 : val 5 = .bool true := depsAll_get hd 5 rfl
              have h20 : val 20 = .bool false := depsAll_get hd 20 rfl
              refine does_value (v := .bool false) ?_ rfl
              simp [execOp, Act.eval, h5, h20, go_sem]
            intro val V2 hb2 hR
            have h21 : val 21 = .bool false := hR 21 (by decide)
            have B2 := hid hb2
            clear hR hb2
            have BV : Hid (Below W.heap.size W V2) := B1.out.trans (B2.out.mono B1.out.size)
            gi_wp2
            rw [h21]
            gi_wp2
            exact ⟨keepsFrom_below BV.out, keepP_below BV.out hsw, _, KJ0.out.keep BV.out hsw (best_more hk hj0 hq1 hq2 HQE.out HQM.out (by have := HL2.out; omega)) NO.out⟩
        | false =>
          have HE := HEG false hE.symm
          have HE2 : Hid (endM (atO l ord j0) = false) := by show _ = _; rw [HTX.out]; exact hE
          clear HEG hE
          (try gi_wp2)
          refine wpIn_region_ask id Try.mixedOrders (by kernel_rfl) (by kernel_rfl) (fun val => { tmps := #[_, _, _, _, _, _, _, _, _, _, _, _, val 0, val 1, val 2, val 3, val 4, val 5, val 6, val 7, val 8, val 9, val 10, val 11, val 12, _, _, _, _, _, _, _, _, _, _, _, _, _, _, _, _, _, _, _, _, _, _, _], defers := [] }) (fun i v _ => match i with | 0 => v = .int .i64 (fi : Int) | 1 => v = .bool true | 2 => v = .bool true | 3 => v = .slice (some ⟨tb, tf, none⟩) l.length tc | 4 => v = .int .i64 (fi : Int) | 5 => v = .pointer (some ⟨tb, tf + fi * 5, none⟩) | 6 => v = (.agg #[.int .i64 TF.1, .int .i64 TF.2.1, .int .i64 TF.2.2.1, .int .i64 TF.2.2.2.1, .slice a2 n2 c2]) | 7 => v = .slice (some ⟨tb, tf, none⟩) l.length tc | 8 => v = .int .i64 (j : Int) | 9 => v = .pointer (some ⟨tb, tf + j * 5, none⟩) | 10 => v = (.agg #[.int .i64 T.1, .int .i64 T.2.1, .int .i64 T.2.2.1, .int .i64 T.2.2.2.1, .slice a1 n1 c1]) | 11 => v = .bool false | 12 => v = .bool false | _ => True) (fun _ => undef) rfl (fun i v w w2 hv _ => hv) _ rfl ⟨?_, ?_, ?_, ?_, ?_, ?_, ?_, ?_, ?_, ?_, ?_, ?_, ?_, trivial⟩ ?_
          · refine ask_plain rfl (fun _ _ => rfl) (fun val V hb hd => ?_)
            have d := (hb.cell (p := ⟨s + 2, 0, none⟩) hs2l).trans s2
            refine does_value (v := .int .i64 (fi : Int)) ?_ rfl
            simp [execOp, Act.eval, go_sem, d]
          · refine ask_plain rfl (fun _ _ => rfl) (fun val V hb hd => ?_)
            have h0 : val 0 = .int .i64 (fi : Int) := depsAll_get hd 0 rfl
            refine does_value (v := .bool true) ?_ rfl
            simp [execOp, Act.eval, h0, hfn, go_sem]
          · refine ask_plain rfl (fun _ _ => rfl) (fun val V hb hd => ?_)
            have h1 : val 1 = .bool true := depsAll_get hd 1 rfl
            exact does_value rfl h1
          · refine ask_yes 2 true rfl (fun _ _ => rfl) (fun val V hd => by have hj : val 2 = .bool true := depsAll_get hd 2 rfl; simp [yielded, hj]) (fun val V hb hd => ?_)
            have d := (hb.cell (p := ⟨s, 0, none⟩) hs0l).trans s0
            refine does_value (v := .slice (some ⟨tb, tf, none⟩) l.length tc) ?_ rfl
            simp [execOp, Act.eval, go_sem, d]
          · refine ask_yes 2 true rfl (fun _ _ => rfl) (fun val V hd => by have hj : val 2 = .bool true := depsAll_get hd 2 rfl; simp [yielded, hj]) (fun val V hb hd => ?_)
            have d := (hb.cell (p := ⟨s + 2, 0, none⟩) hs2l).trans s2
            refine does_value (v := .int .i64 (fi : Int)) ?_ rfl
            simp [execOp, Act.eval, go_sem, d]
          · refine ask_yes 2 true rfl (fun _ _ => rfl) (fun val V hd => by have hj : val 2 = .bool true := depsAll_get hd 2 rfl; simp [yielded, hj]) (fun val V hb hd => ?_)
            have h0 : val 3 = .slice (some ⟨tb, tf, none⟩) l.length tc := depsAll_get hd 3 rfl
            have h1 : val 4 = .int .i64 (fi : Int) := depsAll_get hd 4 rfl
            refine does_value (v := .pointer (some ⟨tb, tf + fi * 5, none⟩)) ?_ rfl
            simp [execOp, Act.eval, h0, h1, go_sem, hfli]
          · refine ask_yes 2 true rfl (fun _ _ => rfl) (fun val V hd => by have hj : val 2 = .bool true := depsAll_get hd 2 rfl; simp [yielded, hj]) (fun val V hb hd => ?_)
            have h0 : val 5 = .pointer (some ⟨tb, tf + fi * 5, none⟩) := depsAll_get hd 5 rfl
            have d0 := (hb.cell (p := ⟨tb, tf + fi * 5, none⟩) htl).trans z0
            have d1 := (hb.cell (p := ⟨tb, tf + fi * 5 + 1, none⟩) htl).trans z1
            have d2 := (hb.cell (p := ⟨tb, tf + fi * 5 + 2, none⟩) htl).trans z2
            have d3 := (hb.cell (p := ⟨tb, tf + fi * 5 + 3, none⟩) htl).trans z3
            have d4 := (hb.cell (p := ⟨tb, tf + fi * 5 + 4, none⟩) htl).trans z4
            refine does_value (v := (.agg #[.int .i64 TF.1, .int .i64 TF.2.1, .int .i64 TF.2.2.1, .int .i64 TF.2.2.2.1, .slice a2 n2 c2])) ?_ rfl
            simp [execOp, Act.eval, h0, go_sem, d0, d1, d2, d3, d4]
          · refine ask_yes 2 true rfl (fun _ _ => rfl) (fun val V hd => by have hj : val 2 = .bool true := depsAll_get hd 2 rfl; simp [yielded, hj]) (fun val V hb hd => ?_)
            have d := (hb.cell (p := ⟨s, 0, none⟩) hs0l).trans s0
            refine does_value (v := .slice (some ⟨tb, tf, none⟩) l.length tc) ?_ rfl
            simp [execOp, Act.eval, go_sem, d]
          · refine ask_yes 2 true rfl (fun _ _ => rfl) (fun val V hd => by have hj : val 2 = .bool true := depsAll_get hd 2 rfl; simp [yielded, hj]) (fun val V hb hd => ?_)
            exact does_value rfl rfl
          · refine ask_yes 2 true rfl (fun _ _ => rfl) (fun val V hd => by have hj : val 2 = .bool true := depsAll_get hd 2 rfl; simp [yielded, hj]) (fun val V hb hd => ?_)
            have h0 : val 7 = .slice (some ⟨tb, tf, none⟩) l.length tc := depsAll_get hd 7 rfl
            have h1 : val 8 = .int .i64 (j : Int) := depsAll_get hd 8 rfl
            refine does_value (v := .pointer (some ⟨tb, tf + j * 5, none⟩)) ?_ rfl
            simp [execOp, Act.eval, h0, h1, go_sem, hjli]
          · refine ask_yes 2 true rfl (fun _ _ => rfl) (fun val V hd => by have hj : val 2 = .bool true := depsAll_get hd 2 rfl; simp [yielded, hj]) (fun val V hb hd => ?_)
            have h0 : val 9 = .pointer (some ⟨tb, tf + j * 5, none⟩) := depsAll_get hd 9 rfl
            have d0 := (hb.cell (p := ⟨tb, tf + j * 5, none⟩) htl).trans y0
            have d1 := (hb.cell (p := ⟨tb, tf + j * 5 + 1, none⟩) htl).trans y1
            have d2 := (hb.cell (p := ⟨tb, tf + j * 5 + 2, none⟩) htl).trans y2
            have d3 := (hb.cell (p := ⟨tb, tf + j * 5 + 3, none⟩) htl).trans y3
            have d4 := (hb.cell (p := ⟨tb, tf + j * 5 + 4, none⟩) htl).trans y4
            refine does_value (v := (.agg #[.int .i64 T.1, .int .i64 T.2.1, .int .i64 T.2.2.1, .int .i64 T.2.2.2.1, .slice a1 n1 c1])) ?_ rfl
            simp [execOp, Act.eval, h0, go_sem, d0, d1, d2, d3, d4]
          · refine ask_yes 2 true rfl (fun _ _ => rfl) (fun val V hd => by have hj : val 2 = .bool true := depsAll_get hd 2 rfl; simp [yielded, hj]) (fun val V hb hd => ?_)
            have h6 : val 6 = (.agg #[.int .i64 TF.1, .int .i64 TF.2.1, .int .i64 TF.2.2.1, .int .i64 TF.2.2.2.1, .slice a2 n2 c2]) := depsAll_get hd 6 rfl
            have h10 : val 10 = (.agg #[.int .i64 T.1, .int .i64 T.2.1, .int .i64 T.2.2.1, .int .i64 T.2.2.2.1, .slice a1 n1 c1]) := depsAll_get hd 10 rfl
            refine does_call (f := 14) (args := #[(.agg #[.int .i64 TF.1, .int .i64 TF.2.1, .int .i64 TF.2.2.1, .int .i64 TF.2.2.2.1, .slice a2 n2 c2]), (.agg #[.int .i64 T.1, .int .i64 T.2.1, .int .i64 T.2.2.1, .int .i64 T.2.2.2.1, .slice a1 n1 c1])]) ?_ (AH.out V) (fun e w2 h => ⟨_, h.1, rfl, h.2⟩)
            simp [execOp, Act.eval, h6, h10, go_sem]
          · refine ask_plain rfl (fun _ _ => rfl) (fun val V hb hd => ?_)
            have h2 : val 2 = .bool true := depsAll_get hd 2 rfl
            have h11 : val 11 = .bool false := depsAll_get hd 11 rfl
            refine does_value (v := .bool false) ?_ rfl
            simp [execOp, Act.eval, h2, h11, go_sem]
          intro val V1 hb1 hR
          have h12 : val 12 = .bool false := hR 12 (by decide)
          have B1 := hid hb1
          clear hR hb1
          gi_wp2
          rw [h12]
          gi_wp2
          replace s0 := (B1.out.cell (p := ⟨s, 0, none⟩) hs0l).trans s0
          replace s2 := (B1.out.cell (p := ⟨s + 2, 0, none⟩) hs2l).trans s2
          replace y0 := (B1.out.cell (p := ⟨tb, tf + j * 5, none⟩) htl).trans y0
          replace y1 := (B1.out.cell (p := ⟨tb, tf + j * 5 + 1, none⟩) htl).trans y1
          replace y2 := (B1.out.cell (p := ⟨tb, tf + j * 5 + 2, none⟩) htl).trans y2
          replace y3 := (B1.out.cell (p := ⟨tb, tf + j * 5 + 3, none⟩) htl).trans y3
          replace y4 := (B1.out.cell (p := ⟨tb, tf + j * 5 + 4, none⟩) htl).trans y4
          replace z0 := (B1.out.cell (p := ⟨tb, tf + fi * 5, none⟩) htl).trans z0
          replace z1 := (B1.out.cell (p := ⟨tb, tf + fi * 5 + 1, none⟩) htl).trans z1
          replace z2 := (B1.out.cell (p := ⟨tb, tf + fi * 5 + 2, none⟩) htl).trans z2
          replace z3 := (B1.out.cell (p := ⟨tb, tf + fi * 5 + 3, none⟩) htl).trans z3
          replace z4 := (B1.out.cell (p := ⟨tb, tf + fi * 5 + 4, none⟩) htl).trans z4
          replace hs0l := Nat.lt_of_lt_of_le hs0l B1.out.size
          replace hs2l := Nat.lt_of_lt_of_le hs2l B1.out.size
          replace htl := Nat.lt_of_lt_of_le htl B1.out.size
          (try gi_wp2)
          refine wpIn_region_ask id Try.mixedOrders (by kernel_rfl) (by kernel_rfl) (fun val => { tmps := #[_, _, _, _, _, _, _, _, _, _, _, _, _, _, _, _, _, _, _, _, _, _, _, _, _, val 0, val 1, val 2, val 3, val 4, val 5, val 6, val 7, val 8, val 9, val 10, val 11, val 12, val 13, val 14, val 15, val 16, val 17, val 18, val 19, val 20, val 21, _], defers := [] }) (fun i v _ => match i with | 0 => v = .slice (some ⟨tb, tf, none⟩) l.length tc | 1 => v = .int .i64 (j : Int) | 2 => v = .pointer (some ⟨tb, tf + j * 5, none⟩) | 3 => v = (.agg #[.int .i64 T.1, .int .i64 T.2.1, .int .i64 T.2.2.1, .int .i64 T.2.2.2.1, .slice a1 n1 c1]) | 4 => v = .bool false | 5 => v = .bool false | 6 => v = undef | 7 => v = undef | 8 => v = undef | 9 => v = undef | 10 => v = undef | 11 => v = undef | 12 => v = undef | 13 => v = undef | 14 => v = undef | 15 => v = undef | 16 => v = undef | 17 => v = undef | 18 => v = undef | 19 => v = undef | 20 => v = undef | 21 => v = .bool false | _ => True) (fun _ => undef) rfl (fun i v w w2 hv _ => hv) _ rfl ⟨?_, ?_, ?_, ?_, ?_, ?_, ?_, ?_, ?_, ?_, ?_, ?_, ?_, ?_, ?_, ?_, ?_, ?_, ?_, ?_, ?_, ?_, trivial⟩ ?_
          · refine ask_plain rfl (fun _ _ => rfl) (fun val V hb hd => ?_)
            have d := (hb.cell (p := ⟨s, 0, none⟩) hs0l).trans s0
            refine does_value (v := .slice (some ⟨tb, tf, none⟩) l.length tc) ?_ rfl
            simp [execOp, Act.eval, go_sem, d]
          · refine ask_plain rfl (fun _ _ => rfl) (fun val V hb hd => ?_)
            exact does_value rfl rfl
          · refine ask_plain rfl (fun _ _ => rfl) (fun val V hb hd => ?_)
            have h0 : val 0 = .slice (some ⟨tb, tf, none⟩) l.length tc := depsAll_get hd 0 rfl
            have h1 : val 1 = .int .i64 (j : Int) := depsAll_get hd 1 rfl
            refine does_value (v := .pointer (some ⟨tb, tf + j * 5, none⟩)) ?_ rfl
            simp [execOp, Act.eval, h0, h1, go_sem, hjli]
          · refine ask_plain rfl (fun _ _ => rfl) (fun val V hb hd => ?_)
            have h0 : val 2 = .pointer (some ⟨tb, tf + j * 5, none⟩) := depsAll_get hd 2 rfl
            have d0 := (hb.cell (p := ⟨tb, tf + j * 5, none⟩) htl).trans y0
            have d1 := (hb.cell (p := ⟨tb, tf + j * 5 + 1, none⟩) htl).trans y1
            have d2 := (hb.cell (p := ⟨tb, tf + j * 5 + 2, none⟩) htl).trans y2
            have d3 := (hb.cell (p := ⟨tb, tf + j * 5 + 3, none⟩) htl).trans y3
            have d4 := (hb.cell (p := ⟨tb, tf + j * 5 + 4, none⟩) htl).trans y4
            refine does_value (v := (.agg #[.int .i64 T.1, .int .i64 T.2.1, .int .i64 T.2.2.1, .int .i64 T.2.2.2.1, .slice a1 n1 c1])) ?_ rfl
            simp [execOp, Act.eval, h0, go_sem, d0, d1, d2, d3, d4]
          · refine ask_plain rfl (fun _ _ => rfl) (fun val V hb hd => ?_)
            have h3 : val 3 = (.agg #[.int .i64 T.1, .int .i64 T.2.1, .int .i64 T.2.2.1, .int .i64 T.2.2.2.1, .slice a1 n1 c1]) := depsAll_get hd 3 rfl
            refine does_call (f := 15) (args := #[(.agg #[.int .i64 T.1, .int .i64 T.2.1, .int .i64 T.2.2.1, .int .i64 T.2.2.2.1, .slice a1 n1 c1])]) ?_ (HE.out V) (fun e w2 h => ⟨_, h.1, rfl, h.2⟩)
            simp [execOp, Act.eval, h3, go_sem]
          · refine ask_plain rfl (fun _ _ => rfl) (fun val V hb hd => ?_)
            have h4 : val 4 = .bool false := depsAll_get hd 4 rfl
            exact does_value rfl h4
          · exact ask_no 5 true false rfl (by decide) (fun _ _ => rfl) (fun val V hd => by have hj : val 5 = .bool false := depsAll_get hd 5 rfl; simp [yielded, hj]) (fun _ => rfl)
          · exact ask_no 5 true false rfl (by decide) (fun _ _ => rfl) (fun val V hd => by have hj : val 5 = .bool false := depsAll_get hd 5 rfl; simp [yielded, hj]) (fun _ => rfl)
          · exact ask_no 5 true false rfl (by decide) (fun _ _ => rfl) (fun val V hd => by have hj : val 5 = .bool false := depsAll_get hd 5 rfl; simp [yielded, hj]) (fun _ => rfl)
          · exact ask_undef 8 false rfl (fun _ _ => rfl) (fun val V hd => by have hj : val 8 = undef := depsAll_get hd 8 rfl; simp [yielded, hj, undef]) (fun _ => rfl)
          · exact ask_undef 8 false rfl (fun _ _ => rfl) (fun val V hd => by have hj : val 8 = undef := depsAll_get hd 8 rfl; simp [yielded, hj, undef]) (fun _ => rfl)
          · exact ask_undef 8 false rfl (fun _ _ => rfl) (fun val V hd => by have hj : val 8 = undef := depsAll_get hd 8 rfl; simp [yielded, hj, undef]) (fun _ => rfl)
          · exact ask_undef 8 false rfl (fun _ _ => rfl) (fun val V hd => by have hj : val 8 = undef := depsAll_get hd 8 rfl; simp [yielded, hj, undef]) (fun _ => rfl)
          · exact ask_undef 8 false rfl (fun _ _ => rfl) (fun val V hd => by have hj : val 8 = undef := depsAll_get hd 8 rfl; simp [yielded, hj, undef]) (fun _ => rfl)
          · exact ask_undef 8 false rfl (fun _ _ => rfl) (fun val V hd => by have hj : val 8 = undef := depsAll_get hd 8 rfl; simp [yielded, hj, undef]) (fun _ => rfl)
          · exact ask_undef 8 false rfl (fun _ _ => rfl) (fun val V hd => by have hj : val 8 = undef := depsAll_get hd 8 rfl; simp [yielded, hj, undef]) (fun _ => rfl)
          · exact ask_undef 8 false rfl (fun _ _ => rfl) (fun val V hd => by have hj : val 8 = undef := depsAll_get hd 8 rfl; simp [yielded, hj, undef]) (fun _ => rfl)
          · exact ask_undef 8 false rfl (fun _ _ => rfl) (fun val V hd => by have hj : val 8 = undef := depsAll_get hd 8 rfl; simp [yielded, hj, undef]) (fun _ => rfl)
          · exact ask_undef 8 false rfl (fun _ _ => rfl) (fun val V hd => by have hj : val 8 = undef := depsAll_get hd 8 rfl; simp [yielded, hj, undef]) (fun _ => rfl)
          · exact ask_undef 8 false rfl (fun _ _ => rfl) (fun val V hd => by have hj : val 8 = undef := depsAll_get hd 8 rfl; simp [yielded, hj, undef]) (fun _ => rfl)
          · exact ask_no 5 true false rfl (by decide) (fun _ _ => rfl) (fun val V hd => by have hj : val 5 = .bool false := depsAll_get hd 5 rfl; simp [yielded, hj]) (fun _ => rfl)
          · refine ask_plain rfl (fun _ _ => rfl) (fun val V hb hd => ?_)
            have h5 : val 5 = .bool false := depsAll_get hd 5 rfl
            have h20 : val 20 = undef := depsAll_get hd 20 rfl
            refine does_value (v := .bool false) ?_ rfl
            simp [execOp, Act.eval, h5, h20, go_sem]
          intro val V2 hb2 hR
          have h21 : val 21 = .bool false := hR 21 (by decide)
          have B2 := hid hb2
          clear hR hb2
          have BV : Hid (Below W.heap.size W V2) := B1.out.trans (B2.out.mono B1.out.size)
          gi_wp2
          rw [h21]
          gi_wp2
          exact ⟨keepsFrom_below BV.out, keepP_below BV.out hsw, _, KJ0.out.keep BV.out hsw (best_skip hk hj0 KJ0.out.bst HE2.out) NO.out⟩
end Go.Proofs.Ytgfnjebnfhgimaa
