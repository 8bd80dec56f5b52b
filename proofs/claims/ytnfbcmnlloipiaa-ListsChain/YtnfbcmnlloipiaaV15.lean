/-
  As Iu, and a fact of a value holds until the operation that uses it up.
  Txn beyond the transactions; the document's Kind.
  All keys, rising: plain.
  The document's Keys.
-/
import Derived.Test.YtnfbcmnlloipiaaV14
import Derived.Test.YtnfbcmnlloipiaaV10
import Derived.Sort.KeysCollected
import Derived.Laws.Cover1
namespace Go.Proofs.Ytnfbcmnlloipiaa
set_option linter.unusedVariables false
set_option linter.unusedSimpArgs false
open Go.RowKit

section
variable (P : Program) (ops : Array Oper) (Q : Exit → Act → World → Prop) (f m1 m2 : Nat) (til : Nat → Option Nat) (G : Bool → Bool → World → Prop) (frame : (Nat → Value) → Act) (R : Nat → Value → World → Prop) (val0 : Nat → Value)
/-- What an operation must come to. -/
def OpDoes3 (b1 b2 : Bool) (i : Nat) (o : Oper) (A : Act) (w : World) : Prop :=
  ∀ K : Act → World → Prop, (∀ v w', R i v w' → G (b1 || decide (i = m1)) (b2 || decide (i = m2)) w' → (∀ j u, j < ops.size → j ≠ i → needB ops f j i = false → (∀ t, til j = some t → t ≠ i ∧ needB ops f i t = false) → R j u w → R j u w') → K (A.put o.dst v) w') → o.wp P A w K Q
def OpAsk3 (i : Nat) (o : Oper) : Prop :=
  o.guard = none ∧ (∀ val v, (frame val).put o.dst v = frame (upV val i v)) ∧ ∀ val w b1 b2, G b1 b2 w → ((decide (i = m1) || needB ops f m1 i) = true → b1 = false) → ((decide (i = m2) || needB ops f m2 i) = true → b2 = false) → (needB ops f i m1 = true → b1 = true) → (∀ j, needB ops f j i = true → val j = val0 j) → depsT R til i val w o.after.toList → OpDoes3 P ops Q f m1 m2 til G R b1 b2 i o (frame val) w
end
theorem wp_region_twot {P : Program} {ops : Array Oper} {Q : Exit → Act → World → Prop} {id : Nat} {a0 : Act} {w0 : World} (hm : P.follows .mixedOrders = true) (hah : aheadB ops = true)
    (f m1 m2 : Nat) (til : Nat → Option Nat) (hm1 : m1 < ops.size) (hm2 : m2 < ops.size) (G : Bool → Bool → World → Prop) (hG : G false false w0.drew) (frame : (Nat → Value) → Act) (R : Nat → Value → World → Prop) (val0 : Nat → Value) (h0 : a0 = frame val0)
    (l : List Oper) (hl : ops.toList = l) (hop : allOps (OpAsk3 P ops Q f m1 m2 til G frame R val0) 0 l)
    (hend : ∀ val w, G true true w → (∀ i, i < ops.size → til i = none → R i (val i) w) → Q .normal (frame val) w) : (Code.region id ops true).wp P Q a0 w0 := by
  refine wp_region_any hm ?_
  refine wpAny_inv (fun listed a w => listed.size = ops.size ∧ (∀ i o, ops[i]? = some o → listed.getD i false = true → ∀ e ∈ o.after, Region.binds .any e = true → listed.getD e.on false = true) ∧ ∃ val, a = frame val ∧ (∀ j, listed.getD j false = false → val j = val0 j) ∧ G (listed.getD m1 false) (listed.getD m2 false) w ∧ ∀ i, i < ops.size → listed.getD i false = true → (∀ t, til i = some t → listed.getD t false = false) → R i (val i) w) ?_ ?_ _ _ _ _ ?_ ?_
  · rintro listed a w ⟨hs, hdep, val, rfl, hv0, hg, hR⟩ i hi
    rw [mem_ready] at hi
    obtain ⟨h1, o, ho, h2⟩ := hi
    have hio : i < ops.size := (Array.getElem?_eq_some_iff.1 ho).1
    have hil : i < listed.size := by omega
    have hif : listed.getD i false = false := by
      rw [Array.getD_eq_getD_getElem?, Array.getElem?_eq_getElem hil] at h1 ⊢
      exact h1
    obtain ⟨g1, g2, g3⟩ := allOps_at l 0 i o hop (by rw [← hl]; simpa using ho)
    rw [Nat.zero_add] at g2 g3
    unfold wpOp
    rw [ho]
    simp only
    rw [if_pos (by simp [Region.wanted, g1])]
    have notYet : ∀ m, (decide (i = m) || needB ops f m i) = true → listed.getD m false = false := fun m hx => by
      simp only [Bool.or_eq_true, decide_eq_true_eq] at hx
      rcases hx with rfl | hx
      · exact hif
      · cases hc : listed.getD m false with
        | false => rfl
        | true =>
          have := need_listed hdep f m i hx hc
          rw [hif] at this
          cases this
    have already : ∀ m, needB ops f i m = true → listed.getD m false = true := fun m hx => by
      cases f with
      | zero => cases hx
      | succ f =>
        unfold needB at hx
        rw [ho] at hx
        simp only [List.any_eq_true, Bool.and_eq_true, Bool.or_eq_true, beq_iff_eq] at hx
        obtain ⟨e, he, hb, hx2⟩ := hx
        have q := h2 e (by simpa using he) hb
        rcases hx2 with hx2 | hx2
        · rw [← hx2]; exact q
        · exact need_listed hdep f e.on m hx2 q
    refine .inl (g3 val w _ _ hg (notYet m1) (notYet m2) (already m1) (fun j hj => hv0 j (notYet j (by rw [hj, Bool.or_true]))) (fun e he hb ht => hR e.on (by have := ahead_of hah ho e (by simpa using he) hb; omega) (h2 e (by simpa using he) hb) (fun t htt => by
      rcases ht with ht | ht
      · rw [ht] at htt; cases htt
      · rw [ht] at htt; cases htt; exact hif)) _ (fun v w' hv hg' hpres => ?_))
    rw [g2]
    have flag : ∀ m, m < ops.size → (listed.setIfInBounds i true).getD m false = (listed.getD m false || decide (i = m)) := fun m hmm => by
      by_cases e : i = m
      · subst e
        rw [Array.getD_eq_getD_getElem?, Array.getElem?_setIfInBounds_self_of_lt hil]
        simp
      · rw [getD_set_ne false e]
        simp [e]
    refine ⟨by simpa using hs, fun j oj hoj hl2 e he hb => ?_, upV val i v, rfl, fun j hj => ?_, (by rw [flag m1 hm1, flag m2 hm2]; exact hg'), fun j hj hl2 htl => ?_⟩
    · by_cases eji : e.on = i
      · rw [eji, Array.getD_eq_getD_getElem?, Array.getElem?_setIfInBounds_self_of_lt hil]
        rfl
      · rw [getD_set_ne false (fun c => eji c.symm)]
        by_cases ji : j = i
        · subst ji
          rw [ho] at hoj
          injection hoj with hoj
          subst hoj
          exact h2 e he hb
        · rw [getD_set_ne false (fun c => ji c.symm)] at hl2
          exact hdep j oj hoj hl2 e he hb
    · by_cases e : j = i
      · subst e
        rw [Array.getD_eq_getD_getElem?, Array.getElem?_setIfInBounds_self_of_lt hil] at hj
        cases hj
      · rw [upV_ne _ _ _ _ e]
        rw [getD_set_ne false (fun c => e c.symm)] at hj
        exact hv0 j hj
    · by_cases e : j = i
      · subst e
        rw [upV_self]
        exact hv
      · rw [upV_ne _ _ _ _ e]
        rw [getD_set_ne false (fun c => e c.symm)] at hl2
        have tn : ∀ t, til j = some t → t ≠ i ∧ listed.getD t false = false := fun t htt => by
          have := htl t htt
          by_cases e2 : t = i
          · subst e2
            rw [Array.getD_eq_getD_getElem?, Array.getElem?_setIfInBounds_self_of_lt hil] at this
            cases this
          · rw [getD_set_ne false (fun c => e2 c.symm)] at this
            exact ⟨e2, this⟩
        refine hpres j _ hj e ?_ (fun t htt => ⟨(tn t htt).1, ?_⟩) (hR j hj hl2 (fun t htt => (tn t htt).2))
        · cases hc : needB ops f j i with
          | false => rfl
          | true =>
            have := need_listed hdep f j i hc hl2
            rw [hif] at this
            cases this
        · cases hc : needB ops f i t with
          | false => rfl
          | true =>
            have := already t hc
            rw [(tn t htt).2] at this
            cases this
  · rintro listed a w ⟨hs, hdep, val, rfl, hv0, hg, hR⟩ hr
    rw [all_listed hah hs hr m1 hm1, all_listed hah hs hr m2 hm2] at hg
    exact hend val w hg (fun i hi ht => hR i hi (all_listed hah hs hr i hi) (fun t htt => by rw [ht] at htt; cases htt))
  · unfold leftN
    exact Nat.le_trans (List.length_filter_le _ _) (by simp)
  · refine ⟨by simp, fun i o ho hl2 => ?_, val0, h0, fun _ _ => rfl, ?_, fun i hi hl2 _ => ?_⟩
    · have hi := (Array.getElem?_eq_some_iff.1 ho).1
      simp [Array.getD_eq_getD_getElem?, hi] at hl2
    · have e : ∀ m, m < ops.size → (Array.replicate ops.size false).getD m false = false := fun m hmm => by simp [Array.getD_eq_getD_getElem?, hmm]
      rw [e m1 hm1, e m2 hm2]
      exact hG
    · simp [Array.getD_eq_getD_getElem?, hi] at hl2
section
variable {P : Program} {ops : Array Oper} {Q : Exit → Act → World → Prop} {f m1 m2 : Nat} {til : Nat → Option Nat} {G : Bool → Bool → World → Prop} {R : Nat → Value → World → Prop} {i : Nat} {o : Oper} {b1 b2 : Bool}
theorem does3_value {A : Act} {w : World} {v : Value} (hG : G b1 b2 w) (n1 : decide (i = m1) = false) (n2 : decide (i = m2) = false) (h : (execOp A.eval o).run P w = .ok (.value v) w) (hR : R i v w) : OpDoes3 P ops Q f m1 m2 til G R b1 b2 i o A w := by
  intro K hK
  unfold Oper.wp
  rw [h]
  exact hK v w hR (by rw [n1, n2, Bool.or_false, Bool.or_false]; exact hG) (fun _ _ _ _ _ _ x => x)
theorem does3_grown {A : Act} {w w' : World} {v : Value} (h : (execOp A.eval o).run P w = .ok (.value v) w') (hR : R i v w') (hG : G (b1 || decide (i = m1)) (b2 || decide (i = m2)) w') (hp : ∀ j u, j < ops.size → j ≠ i → needB ops f j i = false → (∀ t, til j = some t → t ≠ i ∧ needB ops f i t = false) → R j u w → R j u w') : OpDoes3 P ops Q f m1 m2 til G R b1 b2 i o A w := by
  intro K hK
  unfold Oper.wp
  rw [h]
  exact hK v w' hR hG hp
theorem does3_skip {A : Act} {w w' : World} (h : (execOp A.eval o).run P w = .ok .skip w') (hR : R i undef w') (hG : G (b1 || decide (i = m1)) (b2 || decide (i = m2)) w') (hp : ∀ j u, j < ops.size → j ≠ i → needB ops f j i = false → (∀ t, til j = some t → t ≠ i ∧ needB ops f i t = false) → R j u w → R j u w') : OpDoes3 P ops Q f m1 m2 til G R b1 b2 i o A w := by
  intro K hK
  unfold Oper.wp
  rw [h]
  exact hK undef w' hR hG hp
theorem does3_call {A : Act} {w : World} {fn : FuncId} {args : Array Value} {C : Ending → World → Prop} (h : (execOp A.eval o).run P w = .ok (.enter fn args) w) (hc : Calls P fn args w C) (hR : ∀ e w', C e w' → ∃ v, e = .returned v ∧ R i v w' ∧ G (b1 || decide (i = m1)) (b2 || decide (i = m2)) w' ∧ ∀ j u, j < ops.size → j ≠ i → needB ops f j i = false → (∀ t, til j = some t → t ≠ i ∧ needB ops f i t = false) → R j u w → R j u w') : OpDoes3 P ops Q f m1 m2 til G R b1 b2 i o A w := by
  intro K hK
  unfold Oper.wp
  rw [h]
  refine Calls.mono hc (fun e w' he => ?_)
  obtain ⟨v, rfl, hv, hg, hp⟩ := hR e w' he
  exact hK v w' hv hg hp
end
end Go.Proofs.Ytnfbcmnlloipiaa
namespace Go.Proofs.Ytnfbcmnlloipiaa
set_option linter.unusedVariables false
set_option linter.unusedSimpArgs false
open Go.RowKit Go.Lib Go.Maps
open Tx (MTxn info_parts flatten_len flatten_get RowsIn.cells RowCells TxnRow TxnsIn TxnsOwn setCell_self cloneInts_any OpsOwn smallL cutTxn cutOp)

theorem opsOwn_nil (S : Nat → Prop) (w : World) : OpsOwn S w (.slice none 0 0) [] := ⟨none, 0, rfl, ⟨by simp, Nat.le_refl _⟩, fun h => absurd h (Nat.lt_irrefl _)⟩
set_option maxHeartbeats 4000000 in
set_option maxRecDepth 100000 in
theorem ttx_off (B : Nat) (w : World) (tb : Nat) (l : List MTxn) (h : Made B w tb l) (n : Int) (hn : n < 0 ∨ (l.length : Int) ≤ n) :
    Calls Try.prog 67 #[.pointer (some ⟨tb, 0, none⟩), .int .i64 n] w fun e w' => TxPost (0, 0, 0, 0, []) w e w' := by
  have CO : Hid (∀ W, Below w.heap.size w W → Calls Try.prog 21 #[.pointer (some ⟨tb, 0, none⟩)] W fun e w' => e = .returned (.int .i64 (l.length : Int)) ∧ W = w') := fun W hb => count_is B W tb l (h.later hb)
  have FIN : ∀ W v0 v1 v2 v3 v4, Hid (Below w.heap.size w W → Below w.heap.size w (((((W.setCell ⟨w.heap.size, 0, none⟩ v0).setCell ⟨w.heap.size, 1, none⟩ v1).setCell ⟨w.heap.size, 2, none⟩ v2).setCell ⟨w.heap.size, 3, none⟩ v3).setCell ⟨w.heap.size, 4, none⟩ v4)) := fun W v0 v1 v2 v3 v4 hb => ((((hb.setCell (Nat.le_refl _) _).setCell (Nat.le_refl _) _).setCell (Nat.le_refl _) _).setCell (Nat.le_refl _) _).setCell (Nat.le_refl _) _
  have BX : ∀ x, Hid (Below w.heap.size w (w.alloc x)) := fun x => below_box w x
  clear h
  by_cases h0 : n < 0
  · have hd0 : decide (n < 0) = true := by simpa using h0
    go_enter Try.func67, Try.ntmps67
    go_wp2_with fail
    refine bodyPost_ret (v := .agg #[.int .i64 0, .int .i64 0, .int .i64 0, .int .i64 0, .slice none 0 0]) (by simp [results, Try.results67, go_sem]) rfl ?_
    exact ⟨none, 0, 0, rfl, opsOwn_nil _ _, (BX _).out⟩
  · have h1 : (l.length : Int) ≤ n := by omega
    have hd0 : decide (n < 0) = false := by simpa using h0
    have hd1 : decide ((l.length : Int) ≤ n) = true := by simpa using h1
    go_enter Try.func67, Try.ntmps67
    go_wp2_with (go_at_call 21; refine (CO.out _ (BX _).out).mono ?_; rintro e w' ⟨rfl, rfl⟩)
    refine bodyPost_ret (v := .agg #[.int .i64 0, .int .i64 0, .int .i64 0, .int .i64 0, .slice none 0 0]) (by simp [results, Try.results67, go_sem]) rfl ?_
    exact ⟨none, 0, 0, rfl, opsOwn_nil _ _, (BX _).out⟩
theorem kind_stays (N M : List MN) (s : ByteArray) (h : kindN N s ≠ 0) : kindN (N ++ M) s = kindN N s := by
  unfold kindN at h ⊢
  rw [List.find?_append]
  cases hf : N.find? (fun x => decide (x.2.2.key = s ∧ thing x.2.2.kind ≠ 0)) with
  | none =>
    rw [hf] at h
    simp at h
  | some y => rfl
theorem notes_part (l : List MTxn) : ∀ n k j, k < n → j ≤ (l.getD k default).ops.length → ∃ M, notes l n = (notes l k ++ (notesT k (l.getD k default).ops).take j) ++ M
  | 0, k, j, h, _ => absurd h (Nat.not_lt_zero _)
  | n + 1, k, j, h, hj => by
    rw [notes]
    by_cases e : k = n
    · subst e
      exact ⟨(notesT k (l.getD k default).ops).drop j, by rw [List.append_assoc, List.take_append_drop]⟩
    · obtain ⟨M, hM⟩ := notes_part l n k j (by omega) hj
      exact ⟨M ++ notesT n (l.getD n default).ops, by rw [hM, List.append_assoc]⟩
set_option maxHeartbeats 8000000 in
set_option maxRecDepth 100000 in
theorem rkind_is {S : Nat → Prop} (w : World) (v : Value) (l : List MTxn) (s : ByteArray) (h : TxnsIn S w v l) (hl : l.length ≤ 1000) (hten : ∀ t ∈ l, t.ops.length ≤ 10) :
    Calls Try.prog 35 #[v, .string s] w fun e w' => e = .returned (.int .i64 (kindN (notes l l.length) s)) ∧ Below w.heap.size w w' := by
  obtain ⟨a1, c1, rfl, l1, k1⟩ := RowsIn.cells h (by omega)
  have HC := hid k1
  have HTEN := hid hten
  have hli : (l.length : Int) ≤ 1000 := by omega
  clear h k1 hten
  go_enter Try.func35, Try.ntmps35
  go_wp2_with fail
  go_loopg [6, 8, 11] l.length (fun gg _ _ i wr => ∃ k : Nat, k ≤ l.length ∧ l.length - k ≤ gg ∧ i = .int .i64 k ∧ Aside (Below w.heap.size w wr) ∧ Aside (kindN (notes l k) s = 0))
  case atStart => exact ⟨0, Nat.zero_le _, by omega, rfl, Below.refl _ _, rfl⟩
  case round =>
    obtain ⟨k, hk, hgk, rfl, BR, OR⟩ := hrel
    by_cases hlt : k < l.length
    · have hlti : (k : Int) < l.length := by omega
      obtain ⟨b, o, cs, rfl, hbl, _, ⟨ov, hcs, hops⟩, hcell⟩ := HC.out k hlt
      subst hcs
      obtain ⟨oa, oc, hov, hol, hoc⟩ := id hops
      subst hov
      have d0 := (BR.out.cell (p := ⟨b, o + k * 5 + 0, none⟩) hbl).trans (hcell 0 _ rfl)
      have d1 := (BR.out.cell (p := ⟨b, o + k * 5 + 1, none⟩) hbl).trans (hcell 1 _ rfl)
      have d2 := (BR.out.cell (p := ⟨b, o + k * 5 + 2, none⟩) hbl).trans (hcell 2 _ rfl)
      have d3 := (BR.out.cell (p := ⟨b, o + k * 5 + 3, none⟩) hbl).trans (hcell 3 _ rfl)
      have d4 := (BR.out.cell (p := ⟨b, o + k * 5 + 4, none⟩) hbl).trans (hcell 4 _ rfl)
      rw [Nat.add_zero] at d0
      have hten : (l.getD k default).ops.length ≤ 10 := HTEN.out _ (getD_mem l k hlt)
      have HNT : Hid (notes l (k + 1) = notes l k ++ notesT k (l.getD k default).ops) := rfl
      have HPT : Hid (∀ j, j ≤ (l.getD k default).ops.length → ∃ M, notes l l.length = (notes l k ++ (notesT k (l.getD k default).ops).take j) ++ M) := fun j hj => notes_part l l.length k j hlt hj
      have HOC := hid hoc
      have BN : ∀ x, Hid (Below w.heap.size w (wr.alloc x)) := fun x => BR.out.trans ((below_box wr _).mono BR.out.size)
      generalize (l.getD k default).ops = T at *
      generalize l.getD k default = TX at *
      clear hcell hops hoc
      go_wp2_with fail
      have hTi : (T.length : Int) ≤ 10 := by omega
      have OR2 := hid OR.out
      go_loopg [8, 18] T.length (fun gg _ i wi => ∃ j : Nat, j ≤ T.length ∧ T.length - j ≤ gg ∧ i = .int .i64 j ∧ Aside (Below w.heap.size w wi) ∧ Aside (kindN (notes l k ++ (notesT k T).take j) s = 0))
      case atStart => exact ⟨0, Nat.zero_le _, by omega, rfl, (BN _).out, (by rw [List.take_zero, List.append_nil]; exact OR2.out)⟩
      case round =>
        clear BN BR OR OR2 d0 d1 d2 d3 d4
        obtain ⟨j, hj, hgj, rfl, BJ, OJ⟩ := hrel
        by_cases hjl : j < T.length
        · have hjli : (j : Int) < T.length := by omega
          obtain ⟨ob, oo, rfl, _, hcs⟩ := HOC.out (by omega)
          obtain ⟨cs, _, ⟨lv, hcse, hli2⟩, hcell⟩ := hcs j hjl
          subst hcse
          obtain ⟨la, lc, rfl, _⟩ := id hli2
          have hobl := World.block_lt_of_cell? _ _ (hcell 0 _ rfl)
          have x0 := (BJ.out.cell (p := ⟨ob, oo + j * 6 + 0, none⟩) hobl).trans (hcell 0 _ rfl)
          have x1 := (BJ.out.cell (p := ⟨ob, oo + j * 6 + 1, none⟩) hobl).trans (hcell 1 _ rfl)
          have x2 := (BJ.out.cell (p := ⟨ob, oo + j * 6 + 2, none⟩) hobl).trans (hcell 2 _ rfl)
          have x3 := (BJ.out.cell (p := ⟨ob, oo + j * 6 + 3, none⟩) hobl).trans (hcell 3 _ rfl)
          have x4 := (BJ.out.cell (p := ⟨ob, oo + j * 6 + 4, none⟩) hobl).trans (hcell 4 _ rfl)
          have x5 := (BJ.out.cell (p := ⟨ob, oo + j * 6 + 5, none⟩) hobl).trans (hcell 5 _ rfl)
          rw [Nat.add_zero] at x0
          have KS : Hid (kindN (notes l k ++ (notesT k T).take (j + 1)) s = if (T.getD j default).key = s then thing (T.getD j default).kind else 0) := by
            show _ = _
            rw [notesT_take k T j hjl, ← List.append_assoc, kind_snoc, if_pos OJ.out]
          have KE : Hid (kindN (notes l k ++ (notesT k T).take (j + 1)) s ≠ 0 → kindN (notes l l.length) s = kindN (notes l k ++ (notesT k T).take (j + 1)) s) := fun hne => by
            obtain ⟨M, hM⟩ := HPT.out (j + 1) (by omega)
            rw [hM]
            exact kind_stays _ _ _ hne
          have BN : ∀ x, Hid (Below w.heap.size w (wr.alloc x)) := fun x => BJ.out.trans ((below_box wr _).mono BJ.out.size)
          clear hcell hcs hli2 OJ
          generalize T.getD j default = O at *
          obtain ⟨ok, os, ovv, ol, oh, on⟩ := O
          simp only [MOp.kind, MOp.key, MOp.value, MOp.list, MOp.has, MOp.nl] at x0 x1 x2 x3 x4 x5 KS
          by_cases hks : os = s
          · have hkb : (os.toList == s.toList) = true := by rw [hks]; simp
            have K2 : Hid (kindN (notes l k ++ (notesT k T).take (j + 1)) s = thing ok) := by have := KS.out; rw [if_pos hks] at this; exact this
            clear KS hks
            by_cases h1 : ok = 1
            · subst h1
              have e9 : Hid (kindN (notes l l.length) s = 1) := by
                have h9 : thing 1 = 1 := by decide
                have h8 := K2.out
                rw [h9] at h8
                exact (KE.out (by rw [h8]; decide)).trans h8
              clear K2 KE
              go_wp2_with fail
              go_ret
              exact ⟨by rw [e9.out]; rfl, (BN _).out⟩
            · skip
              by_cases h2 : ok = 2
              · subst h2
                have e9 : Hid (kindN (notes l l.length) s = 1) := by
                  have h9 : thing 2 = 1 := by decide
                  have h8 := K2.out
                  rw [h9] at h8
                  exact (KE.out (by rw [h8]; decide)).trans h8
                clear K2 KE
                go_wp2_with fail
                go_ret
                exact ⟨by rw [e9.out]; rfl, (BN _).out⟩
              · skip
                by_cases h3 : ok = 3
                · subst h3
                  have e9 : Hid (kindN (notes l l.length) s = 3) := by
                    have h9 : thing 3 = 3 := by decide
                    have h8 := K2.out
                    rw [h9] at h8
                    exact (KE.out (by rw [h8]; decide)).trans h8
                  clear K2 KE
                  go_wp2_with fail
                  go_ret
                  exact ⟨by rw [e9.out]; rfl, (BN _).out⟩
                · skip
                  by_cases h4 : ok = 4
                  · subst h4
                    have e9 : Hid (kindN (notes l l.length) s = 3) := by
                      have h9 : thing 4 = 3 := by decide
                      have h8 := K2.out
                      rw [h9] at h8
                      exact (KE.out (by rw [h8]; decide)).trans h8
                    clear K2 KE
                    go_wp2_with fail
                    go_ret
                    exact ⟨by rw [e9.out]; rfl, (BN _).out⟩
                  · skip
                    have b1 : (ok == 1) = false := by simpa using h1
                    have b2 : (ok == 2) = false := by simpa using h2
                    have b3 : (ok == 3) = false := by simpa using h3
                    have b4 : (ok == 4) = false := by simpa using h4
                    have K3 : Hid (kindN (notes l k ++ (notesT k T).take (j + 1)) s = 0) := by have := K2.out; rw [show thing ok = 0 from by simp [thing, h1, h2, h3, h4]] at this; exact this
                    clear K2 KE
                    go_wp2_with fail
                    go_roundg (T.length - (j + 1))
                    case measure => omega
                    case rel => exact ⟨j + 1, by omega, by omega, by go_num, (BN _).out, K3.out⟩
          · have hkb : (os.toList == s.toList) = false := by
              cases hc : (os.toList == s.toList) with
              | false => rfl
              | true => exact absurd (cond_ws ▸ hc) hks
            have K2 : Hid (kindN (notes l k ++ (notesT k T).take (j + 1)) s = 0) := by have := KS.out; rw [if_neg hks] at this; exact this
            clear KS KE
            go_wp2_with fail
            go_roundg (T.length - (j + 1))
            case measure => omega
            case rel => exact ⟨j + 1, by omega, by omega, by go_num, (BN _).out, K2.out⟩
        · have hje : j = T.length := by omega
          rw [hje, List.take_of_length_le (by rw [notesT_len]; exact Nat.le_refl _)] at OJ
          clear hje
          go_wp2_with fail
          go_roundg (l.length - (k + 1))
          case measure => omega
          case rel => exact ⟨k + 1, by omega, by omega, by go_num, BJ.out, (by rw [HNT.out]; exact OJ.out)⟩
    · have hke : k = l.length := by omega
      have OE : Hid (kindN (notes l l.length) s = 0) := by rw [hke] at OR; exact OR.out
      clear hke
      go_wp2_with fail
      go_ret
      exact ⟨by rw [OE.out]; rfl, BR.out⟩
end Go.Proofs.Ytnfbcmnlloipiaa
namespace Go.Proofs.Ytnfbcmnlloipiaa
set_option linter.unusedVariables false
set_option linter.unusedSimpArgs false
open Go.RowKit Go.Lib Go.Maps

abbrev Bs := List UInt8
/-- One key is met while another one is put in its place. -/
def stK (key : Bs) (p : List Bs × Bool) (k : Bs) : List Bs × Bool :=
  let q := if p.2 = false ∧ ¬ k < key then (p.1 ++ [key], true) else p
  (if k = key then q.1 else q.1 ++ [k], q.2)
def foK (key : Bs) (out : List Bs) (j : Nat) : List Bs × Bool := (out.take j).foldl (stK key) ([], false)
theorem foK_succ (key : Bs) (out : List Bs) (j : Nat) (h : j < out.length) : foK key out (j + 1) = stK key (foK key out j) (out.getD j default) := by
  unfold foK
  rw [List.take_succ_eq_append_getElem h, List.foldl_append]
  simp [List.getD, List.getElem?_eq_getElem h]
def insK (key : Bs) (out : List Bs) : List Bs := if (foK key out out.length).2 = true then (foK key out out.length).1 else (foK key out out.length).1 ++ [key]
theorem lt_of_ge {a b : Bs} (h : ¬ b < a) (hne : b ≠ a) : a < b := by
  have h1 : a ≤ b := List.not_lt.1 h
  apply Classical.byContradiction
  intro c
  exact hne (List.le_antisymm (List.not_lt.1 c) h1)
/-- Strictly rising. -/
abbrev Ris (l : List Bs) : Prop := l.Pairwise (· < ·)
theorem ris_snoc {l : List Bs} {x : Bs} (h : Ris l) (hx : ∀ y ∈ l, y < x) : Ris (l ++ [x]) := by
  refine List.pairwise_append.2 ⟨h, by simp, fun a ha b hb => ?_⟩
  obtain rfl : b = x := by simpa using hb
  exact hx a ha
theorem ris_at {l : List Bs} (h : Ris l) {i j : Nat} (hij : i < j) (hj : j < l.length) : l.getD i default < l.getD j default := by
  rw [getD_at l i (by omega), getD_at l j hj]
  exact List.pairwise_iff_getElem.1 h i j (by omega) hj hij
theorem mem_take_at {l : List Bs} {j : Nat} {x : Bs} (h : x ∈ l.take j) : ∃ i, i < j ∧ i < l.length ∧ l.getD i default = x := by
  obtain ⟨i, hi, e⟩ := List.mem_iff_getElem.1 h
  rw [List.length_take] at hi
  refine ⟨i, by omega, by omega, ?_⟩
  rw [getD_at l i (by omega), ← e, List.getElem_take]
/-- What is known behind j keys. -/
def FoI (key : Bs) (out : List Bs) (j : Nat) (p : List Bs × Bool) : Prop :=
  Ris p.1 ∧ (∀ x, x ∈ p.1 ↔ x ∈ out.take j ∨ (p.2 = true ∧ x = key)) ∧ (p.2 = false → ∀ x ∈ out.take j, x < key) ∧ (p.2 = true → 0 < j ∧ ¬ out.getD (j - 1) default < key)
theorem take_mem (out : List Bs) (j : Nat) (h : j < out.length) (x : Bs) : x ∈ out.take (j + 1) ↔ x ∈ out.take j ∨ x = out.getD j default := by
  rw [List.take_succ_eq_append_getElem h, List.mem_append, getD_at out j h]
  simp
theorem fo_step (key : Bs) (out : List Bs) (hr : Ris out) (j : Nat) (hj : j < out.length) (p : List Bs × Bool) (h : FoI key out j p) : FoI key out (j + 1) (stK key p (out.getD j default)) := by
  obtain ⟨h1, h2, h3, h4⟩ := h
  obtain ⟨nx, put⟩ := p
  generalize hk : out.getD j default = k at *
  have hbef : ∀ x ∈ out.take j, x < k := fun x hx => by
    obtain ⟨i, hi, hil, e⟩ := mem_take_at hx
    rw [← e, ← hk]
    exact ris_at hr hi hj
  have hm := take_mem out j hj
  rw [hk] at hm
  cases put with
  | true =>
    obtain ⟨h0, h5⟩ := h4 rfl
    have hlk : out.getD (j - 1) default < k := by rw [← hk]; exact ris_at hr (by omega) hj
    have hkk : key < k := by
      have : key ≤ out.getD (j - 1) default := List.not_lt.1 h5
      exact List.lt_of_le_of_lt this hlk
    have hne : k ≠ key := fun e => by rw [e] at hkk; exact List.lt_irrefl _ hkk
    have est : stK key (nx, true) k = (nx ++ [k], true) := by simp [stK, hne]
    rw [est]
    refine ⟨ris_snoc h1 (fun y hy => ?_), fun x => ?_, fun c => (by cases c), fun _ => ⟨by omega, ?_⟩⟩
    · rcases (h2 y).1 hy with c | c
      · exact hbef y c
      · rw [c.2]; exact hkk
    · rw [List.mem_append, h2 x, hm x]
      simp only [List.mem_singleton]
      constructor
      · rintro ((c | c) | c)
        · exact .inl (.inl c)
        · exact .inr c
        · exact .inl (.inr c)
      · rintro ((c | c) | c)
        · exact .inl (.inl c)
        · exact .inr c
        · exact .inl (.inr c)
    · rw [Nat.add_sub_cancel, hk]
      exact fun c => List.lt_irrefl _ (List.lt_trans c hkk)
  | false =>
    have hall := h3 rfl
    by_cases hlt : k < key
    · have hne : k ≠ key := fun e => by rw [e] at hlt; exact List.lt_irrefl _ hlt
      have est : stK key (nx, false) k = (nx ++ [k], false) := by simp [stK, hlt, hne]
      rw [est]
      refine ⟨ris_snoc h1 (fun y hy => ?_), fun x => ?_, fun _ x hx => ?_, fun c => (by cases c)⟩
      · rcases (h2 y).1 hy with c | c
        · exact hbef y c
        · exact absurd c.1 (by simp)
      · rw [List.mem_append, h2 x, hm x]
        simp
      · rcases (hm x).1 hx with c | c
        · exact hall x c
        · rw [c]; exact hlt
    · by_cases hne : k = key
      · have est : stK key (nx, false) k = (nx ++ [key], true) := by simp [stK, hne, List.lt_irrefl]
        rw [est]
        refine ⟨ris_snoc h1 (fun y hy => ?_), fun x => ?_, fun c => (by cases c), fun _ => ⟨by omega, by rw [Nat.add_sub_cancel, hk]; exact hlt⟩⟩
        · rcases (h2 y).1 hy with c | c
          · exact hall y c
          · exact absurd c.1 (by simp)
        · rw [List.mem_append, h2 x, hm x]
          simp [hne]
      · have hkk : key < k := lt_of_ge hlt hne
        have est : stK key (nx, false) k = (nx ++ [key] ++ [k], true) := by simp [stK, hlt, hne]
        rw [est]
        have hs1 : Ris (nx ++ [key]) := ris_snoc h1 (fun y hy => by
          rcases (h2 y).1 hy with c | c
          · exact hall y c
          · exact absurd c.1 (by simp))
        refine ⟨ris_snoc hs1 (fun y hy => ?_), fun x => ?_, fun c => (by cases c), fun _ => ⟨by omega, by rw [Nat.add_sub_cancel, hk]; exact hlt⟩⟩
        · rcases List.mem_append.1 hy with c | c
          · rcases (h2 y).1 c with c | c
            · exact hbef y c
            · exact absurd c.1 (by simp)
          · obtain rfl : y = key := by simpa using c
            exact hkk
        · rw [List.mem_append, List.mem_append, h2 x, hm x]
          simp
          constructor
          · rintro ((c | c) | c)
            · exact .inl (.inl c)
            · exact .inr c
            · exact .inl (.inr c)
          · rintro ((c | c) | c)
            · exact .inl (.inl c)
            · exact .inr c
            · exact .inl (.inr c)
theorem fo_all (key : Bs) (out : List Bs) (hr : Ris out) : ∀ j, j ≤ out.length → FoI key out j (foK key out j)
  | 0, _ => ⟨by simp [foK], fun x => by simp [foK], fun _ x hx => by simp at hx, fun c => by simp [foK] at c⟩
  | j + 1, h => by
    rw [foK_succ key out j (by omega)]
    exact fo_step key out hr j (by omega) _ (fo_all key out hr j (by omega))
theorem ins_ris (key : Bs) (out : List Bs) (hr : Ris out) : Ris (insK key out) ∧ ∀ x, x ∈ insK key out ↔ x ∈ out ∨ x = key := by
  obtain ⟨h1, h2, h3, h4⟩ := fo_all key out hr out.length (Nat.le_refl _)
  rw [List.take_of_length_le (Nat.le_refl _)] at h2 h3
  unfold insK
  by_cases hp : (foK key out out.length).2 = true
  · rw [if_pos hp]
    exact ⟨h1, fun x => by rw [h2 x]; simp [hp]⟩
  · rw [if_neg hp]
    have hf : (foK key out out.length).2 = false := by simpa using hp
    refine ⟨ris_snoc h1 (fun y hy => ?_), fun x => ?_⟩
    · rcases (h2 y).1 hy with c | c
      · exact h3 hf y c
      · exact absurd c.1 hp
    · rw [List.mem_append, h2 x]
      simp [hf]
theorem fo_len (key : Bs) (out : List Bs) : ∀ j, j ≤ out.length → (foK key out j).1.length ≤ j + (if (foK key out j).2 = true then 1 else 0)
  | 0, _ => by simp [foK]
  | j + 1, h => by
    have ih := fo_len key out j (by omega)
    rw [foK_succ key out j (by omega)]
    generalize foK key out j = p at *
    obtain ⟨nx, put⟩ := p
    generalize out.getD j default = k
    unfold stK
    by_cases h1 : put = false ∧ ¬ k < key
    · obtain ⟨h1, h2⟩ := h1
      subst h1
      simp only [h2] at ih ⊢
      by_cases e : k = key <;> simp [e] at ih ⊢ <;> omega
    · cases put with
      | true => by_cases e : k = key <;> simp [e] at ih ⊢ <;> omega
      | false =>
        have h2 : k < key := Classical.byContradiction (fun c => h1 ⟨rfl, c⟩)
        have e : k ≠ key := fun c => by rw [c] at h2; exact List.lt_irrefl _ h2
        simp [h2, e] at ih ⊢
        omega
theorem ins_len (key : Bs) (out : List Bs) : (insK key out).length ≤ out.length + 1 := by
  have h := fo_len key out out.length (Nat.le_refl _)
  unfold insK
  split
  · rename_i c
    rw [if_pos c] at h
    exact h
  · rename_i c
    rw [if_neg c] at h
    rw [List.length_append]
    simp
    omega
/-- All keys of what was noted. -/
def keysN : List MN → List Bs → List Bs
  | [], out => out
  | x :: N, out => keysN N (if thing x.2.2.kind = 0 then out else insK x.2.2.key.data.toList out)
theorem keysN_snoc (N : List MN) (x : MN) : ∀ out, keysN (N ++ [x]) out = if thing x.2.2.kind = 0 then keysN N out else insK x.2.2.key.data.toList (keysN N out) := by
  induction N with
  | nil => intro out; rfl
  | cons y N ih => intro out; exact ih _
theorem bytes_eq {a b : ByteArray} (h : a.data.toList = b.data.toList) : a = b := WideShapes.bytes_inj h
theorem keysN_is (N : List MN) : Ris (keysN N []) ∧ ∀ s : ByteArray, s.data.toList ∈ keysN N [] ↔ kindN N s ≠ 0 := by
  rw [← List.reverse_reverse N]
  generalize N.reverse = M
  induction M with
  | nil => exact ⟨by simp [keysN], fun s => by simp [keysN, kindN]⟩
  | cons x M ih =>
    rw [List.reverse_cons]
    generalize M.reverse = N at *
    obtain ⟨h1, h2⟩ := ih
    rw [keysN_snoc]
    by_cases ht : thing x.2.2.kind = 0
    · rw [if_pos ht]
      refine ⟨h1, fun s => ?_⟩
      rw [h2 s, kind_snoc]
      by_cases e : kindN N s = 0
      · simp [e, ht]
      · simp [e]
    · rw [if_neg ht]
      obtain ⟨h3, h4⟩ := ins_ris x.2.2.key.data.toList _ h1
      refine ⟨h3, fun s => ?_⟩
      rw [h4, h2 s, kind_snoc]
      by_cases e : kindN N s = 0
      · by_cases ek : x.2.2.key = s
        · simp [e, ek, ht]
        · have : s.data.toList ≠ x.2.2.key.data.toList := fun c => ek (bytes_eq c).symm
          simp [e, ek, this]
      · simp [e]
end Go.Proofs.Ytnfbcmnlloipiaa
namespace Go.Proofs.Ytnfbcmnlloipiaa
set_option linter.unusedVariables false
set_option linter.unusedSimpArgs false
open Go.RowKit Go.Lib Go.Maps
open Tx (MTxn info_parts flatten_len flatten_get RowsIn.cells RowCells TxnRow TxnsIn TxnsOwn setCell_self cloneInts_any OpsOwn smallL cutTxn cutOp)

/-- A row of strings of one's own. -/
def SRow (B : Nat) (w : World) (v : Value) (l : List Bs) : Prop := w.ownsRow B 9 1 v l.length (l.map encStr)
theorem SRow.later {B : Nat} {w w' : World} {v : Value} {l : List Bs} (h : SRow B w v l) (hb : Below w.heap.size w w') : SRow B w' v l := own_same h (fun g hg => hb.block g (own_block h hg).2.1)
theorem SRow.grown {B : Nat} {w w' : World} {v u : Value} {l : List Bs} (h : SRow B w v l) (hg : w.grownBy w' u.ownBlock) (hne : ∀ g, v.ownBlock = some g → u.ownBlock ≠ some g) : SRow B w' v l := own_same h (fun g hgo => hg.block g (own_block h hgo).2.1 (fun e => hne g hgo e.symm))
theorem own_mono {B B' : Nat} {w : World} {e : TypeId} {z n : Nat} {v : Value} {xs : List Value} (h : w.ownsRow B e z v n xs) (hB : B' ≤ B) : w.ownsRow B' e z v n xs := by
  refine ⟨h.1, ?_⟩
  rcases h.2 with h1 | ⟨g, cap, cur, hv, hg, hh, hr⟩
  · exact .inl h1
  · exact .inr ⟨g, cap, cur, hv, Nat.le_trans hB hg, hh, hr⟩
theorem SRow.mono {B B' : Nat} {w : World} {v : Value} {l : List Bs} (h : SRow B w v l) (hb : B' ≤ B) : SRow B' w v l := own_mono h hb
theorem toL (s : ByteArray) : s.toList = s.data.toList := ByteArray.toList_eq s
theorem less_is (a b : ByteArray) : Op.bytesLess a.toList b.toList = decide (a.data.toList < b.data.toList) := by rw [bytesLess_eq, toL, toL]
theorem enc_of (s : ByteArray) : encStr s.data.toList = .string s := by simp [encStr]
theorem str_of (k : Bs) : ∃ kb : ByteArray, encStr k = .string kb ∧ kb.data.toList = k := ⟨⟨⟨k⟩⟩, rfl, rfl⟩
theorem srow_snoc {B : Nat} {w : World} {v : Value} {L : List Bs} {s : ByteArray} (h : w.ownsRow B 9 1 v (L.length + 1) (L.map encStr ++ [.string s])) : SRow B w v (L ++ [s.data.toList]) := by
  unfold SRow
  rw [List.length_append, List.map_append, List.map_cons, List.map_nil, enc_of]
  exact h
theorem srow_snoc2 {B : Nat} {w : World} {v : Value} {L : List Bs} {s t : ByteArray} (h : w.ownsRow B 9 1 v (L.length + 1 + 1) (L.map encStr ++ [.string s] ++ [.string t])) : SRow B w v (L ++ [s.data.toList] ++ [t.data.toList]) := by
  apply srow_snoc
  rw [List.length_append, List.map_append, List.map_cons, List.map_nil, enc_of]
  exact h
theorem srow_form {B : Nat} {w : World} {oa : Option Addr} {N c : Nat} {L : List Bs} (h : SRow B w (.slice oa N c) L) (h0 : 0 < L.length) : ∃ g cap, (Value.slice oa N c) = .slice (some ⟨g, 0, none⟩) L.length cap := by
  obtain ⟨g, cap, e, _⟩ := World.ownsRow.form h h0
  exact ⟨g, cap, e⟩
theorem srow_cell {B : Nat} {w : World} {g c : Nat} {L : List Bs} (h : SRow B w (.slice (some ⟨g, 0, none⟩) L.length c) L) (q : Nat) (hq : q < L.length) : w.cell? ⟨g, q, none⟩ = some (encStr (L.getD q default)) := by
  rw [World.ownsRow.cellAt h q (by omega), List.getElem?_map, List.getElem?_eq_getElem hq, getD_at L q hq]
  rfl
theorem push_b {B : Nat} {W w1 w8 : World} {o : Obj} {v : Value} {n : Nat} {xs : List Value} (hBW : B ≤ W.heap.size) (hB : Below B W w1) (hr : w1.ownsRow B 9 1 v n xs) (hg : (w1.alloc o).grownBy w8 v.ownBlock) : Below B W w8 := by
  have h1 : w1.heap.size + 1 ≤ w8.heap.size := by have := hg.size; rw [alloc_size] at this; exact this
  have h0 := hB.size
  refine ⟨hg.os.trans hB.os, hg.tape.trans hB.tape, hg.output.trans hB.output, by omega, fun b hb => ?_⟩
  have hb1 : b < w1.heap.size := by omega
  refine (hg.block b (by rw [alloc_size]; omega) (fun e => ?_)).trans ((by rw [alloc_at, if_neg (by omega)] : (w1.alloc o).heap[b]? = w1.heap[b]?).trans (hB.block b hb))
  have := (own_block hr e.symm).1
  omega
theorem fo_len2 (key : Bs) (out : List Bs) (j : Nat) (h : j ≤ out.length) : (foK key out j).1.length ≤ 2 * j := by
  induction j with
  | zero => simp [foK]
  | succ m ih =>
    rw [foK_succ key out m (by omega)]
    have := ih (by omega)
    generalize foK key out m = p at *
    obtain ⟨a, b⟩ := p
    simp only at this
    unfold stK
    simp only
    split <;> split <;> simp <;> omega
theorem str_ne (a b : ByteArray) : True := trivial
theorem keys_len (N : List MN) : (keysN N []).length ≤ N.length := by
  rw [← List.reverse_reverse N]
  generalize N.reverse = M
  induction M with
  | nil => simp [keysN]
  | cons x M ih =>
    rw [List.reverse_cons, keysN_snoc, List.length_append]
    split
    · simp at ih ⊢
      omega
    · have hl := ins_len x.2.2.key.data.toList (keysN M.reverse [])
      simp at ih ⊢
      omega
theorem Try.infoS : (Try.prog.info? 9).map (fun i => (i.zero, i.size, i.bytes)) = some (some (.string ByteArray.empty), 1, 16) := by kernel_rfl
set_option maxHeartbeats 16000000 in
set_option maxRecDepth 100000 in
theorem rkeys_is {S : Nat → Prop} (w : World) (v : Value) (l : List MTxn) (h : TxnsIn S w v l) (hl : l.length ≤ 1000) (hten : ∀ t ∈ l, t.ops.length ≤ 10) :
    Calls Try.prog 11 #[v] w fun e w' => ∃ v', e = .returned v' ∧ SRow w.heap.size w' v' (keysN (notes l l.length) []) ∧ Below w.heap.size w w' := by
  obtain ⟨i0, hi0, hz0, hz1, hz2⟩ := info_parts Try.infoS
  have HI0 := hid hi0
  have HZ0 := hid hz0
  have HZ1 := hid hz1
  have HZ2 := hid hz2
  obtain ⟨a1, c1, rfl, l1, k1⟩ := RowsIn.cells h (by omega)
  have HC := hid k1
  have HTEN := hid hten
  have hli : (l.length : Int) ≤ 1000 := by omega
  clear h k1 hten hi0 hz0 hz1 hz2
  go_enter Try.func11, Try.ntmps11
  go_wp2_with fail
  go_loopg [3, 5, 7, 8, 9, 11, 14] l.length (fun gg out _ _ _ _ _ i wr => ∃ k : Nat, k ≤ l.length ∧ l.length - k ≤ gg ∧ i = .int .i64 k ∧ Aside (Below w.heap.size w wr) ∧ Aside (SRow w.heap.size wr out (keysN (notes l k) [])))
  case atStart => exact ⟨0, Nat.zero_le _, by omega, rfl, Below.refl _ _, World.ownsRow_nil _ _ _ _⟩
  case round =>
    obtain ⟨k, hk, hgk, rfl, BR, OR⟩ := hrel
    by_cases hlt : k < l.length
    · have hlti : (k : Int) < l.length := by omega
      obtain ⟨b, o, cs, rfl, hbl, _, ⟨ov, hcs, hops⟩, hcell⟩ := HC.out k hlt
      subst hcs
      obtain ⟨oa, oc, hov, hol, hoc⟩ := id hops
      subst hov
      have d0 := (BR.out.cell (p := ⟨b, o + k * 5 + 0, none⟩) hbl).trans (hcell 0 _ rfl)
      have d1 := (BR.out.cell (p := ⟨b, o + k * 5 + 1, none⟩) hbl).trans (hcell 1 _ rfl)
      have d2 := (BR.out.cell (p := ⟨b, o + k * 5 + 2, none⟩) hbl).trans (hcell 2 _ rfl)
      have d3 := (BR.out.cell (p := ⟨b, o + k * 5 + 3, none⟩) hbl).trans (hcell 3 _ rfl)
      have d4 := (BR.out.cell (p := ⟨b, o + k * 5 + 4, none⟩) hbl).trans (hcell 4 _ rfl)
      rw [Nat.add_zero] at d0
      have hten : (l.getD k default).ops.length ≤ 10 := HTEN.out _ (getD_mem l k hlt)
      have hNl := notes_len l HTEN.out k
      have HNT : Hid (notes l (k + 1) = notes l k ++ notesT k (l.getD k default).ops) := rfl
      have HOC := hid hoc
      have BN : ∀ x, Hid (Below w.heap.size w (wr.alloc x)) := fun x => BR.out.trans ((below_box wr _).mono BR.out.size)
      have ON : ∀ x, Hid (SRow w.heap.size (wr.alloc x) u3 (keysN (notes l k) [])) := fun x => OR.out.later (below_box wr _)
      generalize (l.getD k default).ops = T at *
      generalize l.getD k default = TX at *
      clear hcell hops hoc
      go_wp2_with fail
      have hTi : (T.length : Int) ≤ 10 := by omega
      go_loopg [3, 7, 8, 9, 11, 21] T.length (fun gg out _ _ _ _ i wi => ∃ j : Nat, j ≤ T.length ∧ T.length - j ≤ gg ∧ i = .int .i64 j ∧ Aside (Below w.heap.size w wi) ∧ Aside (SRow w.heap.size wi out (keysN (notes l k ++ (notesT k T).take j) [])))
      case atStart => exact ⟨0, Nat.zero_le _, by omega, rfl, (BN _).out, (by rw [List.take_zero, List.append_nil]; exact (ON _).out)⟩
      case round =>
        clear BN ON BR OR d0 d1 d2 d3 d4
        obtain ⟨j, hj, hgj, rfl, BJ, OJ⟩ := hrel
        by_cases hjl : j < T.length
        · have hjli : (j : Int) < T.length := by omega
          obtain ⟨ob, oo, rfl, _, hcs⟩ := HOC.out (by omega)
          obtain ⟨cs, _, ⟨lv, hcse, hli2⟩, hcell⟩ := hcs j hjl
          subst hcse
          obtain ⟨la, lc, rfl, _⟩ := id hli2
          have hobl := World.block_lt_of_cell? _ _ (hcell 0 _ rfl)
          have x0 := (BJ.out.cell (p := ⟨ob, oo + j * 6 + 0, none⟩) hobl).trans (hcell 0 _ rfl)
          have x1 := (BJ.out.cell (p := ⟨ob, oo + j * 6 + 1, none⟩) hobl).trans (hcell 1 _ rfl)
          have x2 := (BJ.out.cell (p := ⟨ob, oo + j * 6 + 2, none⟩) hobl).trans (hcell 2 _ rfl)
          have x3 := (BJ.out.cell (p := ⟨ob, oo + j * 6 + 3, none⟩) hobl).trans (hcell 3 _ rfl)
          have x4 := (BJ.out.cell (p := ⟨ob, oo + j * 6 + 4, none⟩) hobl).trans (hcell 4 _ rfl)
          have x5 := (BJ.out.cell (p := ⟨ob, oo + j * 6 + 5, none⟩) hobl).trans (hcell 5 _ rfl)
          rw [Nat.add_zero] at x0
          have KS : Hid (keysN (notes l k ++ (notesT k T).take (j + 1)) [] = if thing (T.getD j default).kind = 0 then keysN (notes l k ++ (notesT k T).take j) [] else insK (T.getD j default).key.data.toList (keysN (notes l k ++ (notesT k T).take j) [])) := by
            show _ = _
            rw [notesT_take k T j hjl, ← List.append_assoc, keysN_snoc]
          have hKl : (keysN (notes l k ++ (notesT k T).take j) []).length ≤ 10 * k + j := by
            have := keys_len (notes l k ++ (notesT k T).take j)
            rw [List.length_append, List.length_take, notesT_len] at this
            omega
          have BN : ∀ x, Hid (Below w.heap.size w (wr.alloc x)) := fun x => BJ.out.trans ((below_box wr _).mono BJ.out.size)
          have ON : ∀ x, Hid (SRow w.heap.size (wr.alloc x) u3 (keysN (notes l k ++ (notesT k T).take j) [])) := fun x => OJ.out.later (below_box wr _)
          clear hcell hcs hli2
          obtain ⟨KN, hKN⟩ : ∃ KN, keysN (notes l k ++ (notesT k T).take (j + 1)) [] = KN := ⟨_, rfl⟩
          have HKN := hid hKN
          rw [hKN] at KS
          clear hKN
          generalize keysN (notes l k ++ (notesT k T).take j) [] = KO at *
          generalize T.getD j default = O at *
          obtain ⟨ok, os, ovv, ol, oh, on⟩ := O
          simp only [MOp.kind, MOp.key, MOp.value, MOp.list, MOp.has, MOp.nl] at x0 x1 x2 x3 x4 x5 KS
          by_cases hth : thing ok = 0
          · have hK2 : Hid (KN = KO) := by have := KS.out; rw [if_pos hth] at this; exact this
            have hkk : ok < 1 ∨ 4 < ok := by
              unfold thing at hth
              by_cases a : ok = 1 ∨ ok = 2
              · rw [if_pos a] at hth; omega
              · rw [if_neg a] at hth
                by_cases b : ok = 3 ∨ ok = 4
                · rw [if_pos b] at hth; omega
                · omega
            clear KS hth
            by_cases h1 : ok < 1
            · have hd1 : decide (ok < 1) = true := decide_eq_true h1
              go_wp2_with fail
              go_roundg (T.length - (j + 1))
              case measure => omega
              case rel => exact ⟨j + 1, by omega, by omega, by go_num, (BN _).out, (by rw [HKN.out, hK2.out]; exact (ON _).out)⟩
            · have h4 : 4 < ok := by omega
              have hd1 : decide (ok < 1) = false := decide_eq_false h1
              have hd4 : decide (4 < ok) = true := decide_eq_true h4
              go_wp2_with fail
              go_roundg (T.length - (j + 1))
              case measure => omega
              case rel => exact ⟨j + 1, by omega, by omega, by go_num, (BN _).out, (by rw [HKN.out, hK2.out]; exact (ON _).out)⟩
          · have hK2 : Hid (KN = insK os.data.toList KO) := by have := KS.out; rw [if_neg hth] at this; exact this
            have hkk : 1 ≤ ok ∧ ok ≤ 4 := by
              unfold thing at hth
              by_cases a : ok = 1 ∨ ok = 2
              · omega
              · by_cases b : ok = 3 ∨ ok = 4
                · omega
                · rw [if_neg a, if_neg b] at hth; exact absurd rfl hth
            have h1 : ¬ ok < 1 := by omega
            have h4 : ¬ 4 < ok := by omega
            have hd1 : decide (ok < 1) = false := decide_eq_false h1
            have hd4 : decide (4 < ok) = false := decide_eq_false h4
            clear KS hth hkk
            obtain ⟨oua, ouc, hou⟩ := own_slice OJ.out
            subst hou
            go_upto_region 11 with fail
            obtain ⟨Wb, hWb⟩ : ∃ Wb, wr.alloc (.cells #[.int .i64 ok, .string os, .int .i64 ovv, .slice la ol.length lc, .bool oh, .bool on] 49) = Wb := ⟨_, rfl⟩
            obtain ⟨xb, hxb⟩ : ∃ xb, wr.heap.size = xb := ⟨_, rfl⟩
            have p1 : Wb.cell? ⟨xb, 1, none⟩ = some (.string os) := by rw [← hWb, ← hxb]; simp
            have hxl : xb < Wb.heap.size := by rw [← hWb, ← hxb, alloc_size]; omega
            have BB : Hid (Below w.heap.size w Wb) := by rw [← hWb]; exact (BN _).out
            have OB : Hid (SRow w.heap.size Wb (.slice oua KO.length ouc) KO) := by rw [← hWb]; exact (ON _).out
            rw [hWb, hxb]
            clear hWb hxb BN ON BJ OJ x0 x1 x2 x3 x4 x5
            have hKi : (KO.length : Int) ≤ 100000 := by omega
            have P1 := hid p1
            clear p1
            go_wp2_with fail
            go_loopg [8, 9, 11, 35] KO.length (fun gg nx pt _ i wq => ∃ q : Nat, q ≤ KO.length ∧ KO.length - q ≤ gg ∧ i = .int .i64 q ∧ pt = .bool (foK os.data.toList KO q).2 ∧ Aside (Below Wb.heap.size Wb wq) ∧ Aside (SRow Wb.heap.size wq nx (foK os.data.toList KO q).1))
            case atStart => exact ⟨0, Nat.zero_le _, by omega, rfl, rfl, Below.refl _ _, World.ownsRow_nil _ _ _ _⟩
            case round =>
              obtain ⟨q, hq, hgq, rfl, hpt, BQ, RQ⟩ := hrel
              have hfl := fo_len2 os.data.toList KO q hq
              have FE : Hid (insK os.data.toList KO = if (foK os.data.toList KO KO.length).2 = true then (foK os.data.toList KO KO.length).1 else (foK os.data.toList KO KO.length).1 ++ [os.data.toList]) := rfl
              have hsq : Wb.heap.size ≤ wr.heap.size := BQ.out.size
              have p1 := (BQ.out.cell (p := ⟨xb, 1, none⟩) hxl).trans P1.out
              obtain ⟨na, nc, hn⟩ := own_slice RQ.out
              subst hn
              by_cases hql : q < KO.length
              · have hqli : (q : Int) < KO.length := by omega
                have FSu := hid (foK_succ os.data.toList KO q hql)
                have OQ := hid (OB.out.later BQ.out)
                obtain ⟨og, ocap, hof⟩ := srow_form OB.out (by omega)
                cases hof
                obtain ⟨kb, hkb, hkl⟩ := str_of (KO.getD q default)
                have hcq : wr.cell? ⟨og, q, none⟩ = some (.string kb) := by
                  rw [← hkb]
                  exact srow_cell OQ.out q hql
                generalize KO.getD q default = kq at *
                subst hkl
                clear hkb
                clear FE
                generalize foK os.data.toList KO q = fp at *
                obtain ⟨fx, pt⟩ := fp
                simp only at hpt hfl
                subst hpt
                have hne := str_ne kb os
                have hls := less_is kb os
                by_cases hk : kb.data.toList = os.data.toList
                · have he1 : (kb.toList == os.toList) = true := by rw [toL, toL, hk]; simp
                  have hl1 : Op.bytesLess kb.toList os.toList = false := by rw [hls, hk]; exact decide_eq_false (List.lt_irrefl _)
                  clear hls hne
                  cases pt with
                  | true =>
                    have FV : Hid (foK os.data.toList KO (q + 1) = (fx, true)) := hid (by rw [FSu.out]; simp [stK, hk])
                    clear FSu
                    go_wp2_with fail
                    go_roundg (KO.length - (q + 1))
                    case measure => omega
                    case rel => exact ⟨q + 1, by omega, by omega, by go_num, (by rw [FV.out]), BQ.out, (by rw [FV.out]; exact RQ.out)⟩
                  | false =>
                    have FV : Hid (foK os.data.toList KO (q + 1) = (fx ++ [os.data.toList], true)) := hid (by rw [FSu.out]; simp [stK, hk, List.lt_irrefl])
                    clear FSu
                    go_wp2_with (at_builtin; refine wpList_append_lies _ rfl _ _ 26 rfl Wb.heap.size 9 i0 _ 1 16 Try.underlying26 HI0.out HZ0.out HZ1.out HZ2.out rfl (by decide) (.slice na fx.length nc) (fx.length) (fx.map encStr) rfl (RQ.out.alloc _) ⟨wr.heap.size, 0, none⟩ 1 1 [.string os] rfl rfl (World.news_of_block (cs := #[.string os]) (t := 9) (fr := (0, 0)) (by rw [alloc_at, if_pos rfl])) (by simp [Value.oneCell']) (by decide) (by unfold maxLen; omega) (by omega) (by rw [alloc_size]; omega) (wr.heap.size + 1) (by simp) ?_; intro g7 cap7 w7 hown hgrow hat hglt; have O7 := hid hown; have B7 := hid (push_b (Nat.le_refl _) BQ.out RQ.out hgrow); have s7 : Wb.heap.size ≤ w7.heap.size := B7.out.size; have p7 : w7.cell? ⟨xb, 1, none⟩ = some (.string os) := (B7.out.cell (p := ⟨xb, 1, none⟩) hxl).trans P1.out; clear hown hgrow hat hglt)
                    go_roundg (KO.length - (q + 1))
                    case measure => omega
                    case rel => exact ⟨q + 1, by omega, by omega, by go_num, (by rw [FV.out]), B7.out, (by rw [FV.out]; exact (srow_snoc O7.out))⟩
                · have he1 : (kb.toList == os.toList) = false := by rw [toL, toL]; simpa using hk
                  cases pt with
                  | true =>
                    have FV : Hid (foK os.data.toList KO (q + 1) = (fx ++ [kb.data.toList], true)) := hid (by rw [FSu.out]; simp [stK, hk])
                    clear FSu
                    go_wp2_with (at_builtin; refine wpList_append_lies _ rfl _ _ 26 rfl Wb.heap.size 9 i0 _ 1 16 Try.underlying26 HI0.out HZ0.out HZ1.out HZ2.out rfl (by decide) (.slice na fx.length nc) (fx.length) (fx.map encStr) rfl (RQ.out.alloc _) ⟨wr.heap.size, 0, none⟩ 1 1 [.string kb] rfl rfl (World.news_of_block (cs := #[.string kb]) (t := 9) (fr := (0, 0)) (by rw [alloc_at, if_pos rfl])) (by simp [Value.oneCell']) (by decide) (by unfold maxLen; omega) (by omega) (by rw [alloc_size]; omega) (wr.heap.size + 1) (by simp) ?_; intro g8 cap8 w8 hown hgrow hat hglt; have O8 := hid hown; have B8 := hid (push_b (Nat.le_refl _) BQ.out RQ.out hgrow); have s8 : Wb.heap.size ≤ w8.heap.size := B8.out.size; clear hown hgrow hat hglt)
                    go_roundg (KO.length - (q + 1))
                    case measure => omega
                    case rel => exact ⟨q + 1, by omega, by omega, by go_num, (by rw [FV.out]), B8.out, (by rw [FV.out]; exact (srow_snoc O8.out))⟩
                  | false =>
                    by_cases hl : kb.data.toList < os.data.toList
                    · have hl1 : Op.bytesLess kb.toList os.toList = true := by rw [hls]; exact decide_eq_true hl
                      have FV : Hid (foK os.data.toList KO (q + 1) = (fx ++ [kb.data.toList], false)) := hid (by rw [FSu.out]; simp [stK, hk, hl])
                      clear FSu hls
                      go_wp2_with (at_builtin; refine wpList_append_lies _ rfl _ _ 26 rfl Wb.heap.size 9 i0 _ 1 16 Try.underlying26 HI0.out HZ0.out HZ1.out HZ2.out rfl (by decide) (.slice na fx.length nc) (fx.length) (fx.map encStr) rfl (RQ.out.alloc _) ⟨wr.heap.size, 0, none⟩ 1 1 [.string kb] rfl rfl (World.news_of_block (cs := #[.string kb]) (t := 9) (fr := (0, 0)) (by rw [alloc_at, if_pos rfl])) (by simp [Value.oneCell']) (by decide) (by unfold maxLen; omega) (by omega) (by rw [alloc_size]; omega) (wr.heap.size + 1) (by simp) ?_; intro g8 cap8 w8 hown hgrow hat hglt; have O8 := hid hown; have B8 := hid (push_b (Nat.le_refl _) BQ.out RQ.out hgrow); have s8 : Wb.heap.size ≤ w8.heap.size := B8.out.size; clear hown hgrow hat hglt)
                      go_roundg (KO.length - (q + 1))
                      case measure => omega
                      case rel => exact ⟨q + 1, by omega, by omega, by go_num, (by rw [FV.out]), B8.out, (by rw [FV.out]; exact (srow_snoc O8.out))⟩
                    · have hl1 : Op.bytesLess kb.toList os.toList = false := by rw [hls]; exact decide_eq_false hl
                      have FV : Hid (foK os.data.toList KO (q + 1) = (fx ++ [os.data.toList] ++ [kb.data.toList], true)) := hid (by rw [FSu.out]; simp [stK, hk, hl])
                      clear FSu hls
                      go_wp2_with first | (at_builtin; refine wpList_append_lies _ rfl _ _ 26 rfl Wb.heap.size 9 i0 _ 1 16 Try.underlying26 HI0.out HZ0.out HZ1.out HZ2.out rfl (by decide) (.slice na fx.length nc) (fx.length) (fx.map encStr) rfl (RQ.out.alloc _) ⟨wr.heap.size, 0, none⟩ 1 1 [.string os] rfl rfl (World.news_of_block (cs := #[.string os]) (t := 9) (fr := (0, 0)) (by rw [alloc_at, if_pos rfl])) (by simp [Value.oneCell']) (by decide) (by unfold maxLen; omega) (by omega) (by rw [alloc_size]; omega) (wr.heap.size + 1) (by simp) ?_; intro g7 cap7 w7 hown hgrow hat hglt; have O7 := hid hown; have B7 := hid (push_b (Nat.le_refl _) BQ.out RQ.out hgrow); have s7 : Wb.heap.size ≤ w7.heap.size := B7.out.size; have p7 : w7.cell? ⟨xb, 1, none⟩ = some (.string os) := (B7.out.cell (p := ⟨xb, 1, none⟩) hxl).trans P1.out; clear hown hgrow hat hglt) | (at_builtin; refine wpList_append_lies _ rfl _ _ 26 rfl Wb.heap.size 9 i0 _ 1 16 Try.underlying26 HI0.out HZ0.out HZ1.out HZ2.out rfl (by decide) (.slice (some ⟨g7, 0, none⟩) (fx.length + 1) cap7) (fx.length + 1) (fx.map encStr ++ [.string os]) rfl (O7.out.alloc _) ⟨w7.heap.size, 0, none⟩ 1 1 [.string kb] rfl rfl (World.news_of_block (cs := #[.string kb]) (t := 9) (fr := (0, 0)) (by rw [alloc_at, if_pos rfl])) (by simp [Value.oneCell']) (by decide) (by unfold maxLen; omega) (by omega) (by rw [alloc_size]; omega) (w7.heap.size + 1) (by simp) ?_; intro g8 cap8 w8 hown hgrow hat hglt; have O8 := hid hown; have B8 := hid (push_b (Nat.le_refl _) B7.out O7.out hgrow); have s8 : Wb.heap.size ≤ w8.heap.size := B8.out.size; clear hown hgrow hat hglt)
                      go_roundg (KO.length - (q + 1))
                      case measure => omega
                      case rel => exact ⟨q + 1, by omega, by omega, by go_num, (by rw [FV.out]), B8.out, (by rw [FV.out]; exact (srow_snoc2 O8.out))⟩
              · have hqe : q = KO.length := by omega
                rw [hqe] at hpt RQ hfl
                rw [hqe]
                generalize foK os.data.toList KO KO.length = fp at *
                obtain ⟨fx, pt⟩ := fp
                simp only at hpt hfl
                subst hpt
                clear hqe
                cases pt with
                | true =>
                  have hK3 : Hid (KN = fx) := hid (by rw [hK2.out, FE.out]; rfl)
                  clear FE
                  go_wp2_with fail
                  go_roundg (T.length - (j + 1))
                  case measure => omega
                  case rel => exact ⟨j + 1, by omega, by omega, by go_num, BB.out.trans (BQ.out.mono BB.out.size), (by rw [HKN.out, hK3.out]; exact RQ.out.mono BB.out.size)⟩
                | false =>
                  have hK3 : Hid (KN = fx ++ [os.data.toList]) := hid (by rw [hK2.out, FE.out]; rfl)
                  clear FE
                  go_wp2_with (at_builtin; refine wpList_append_lies _ rfl _ _ 26 rfl Wb.heap.size 9 i0 _ 1 16 Try.underlying26 HI0.out HZ0.out HZ1.out HZ2.out rfl (by decide) (.slice na fx.length nc) (fx.length) (fx.map encStr) rfl (RQ.out.alloc _) ⟨wr.heap.size, 0, none⟩ 1 1 [.string os] rfl rfl (World.news_of_block (cs := #[.string os]) (t := 9) (fr := (0, 0)) (by rw [alloc_at, if_pos rfl])) (by simp [Value.oneCell']) (by decide) (by unfold maxLen; omega) (by omega) (by rw [alloc_size]; omega) (wr.heap.size + 1) (by simp) ?_; intro g7 cap7 w7 hown hgrow hat hglt; have O7 := hid hown; have B7 := hid (push_b (Nat.le_refl _) BQ.out RQ.out hgrow); have s7 : Wb.heap.size ≤ w7.heap.size := B7.out.size; have p7 : w7.cell? ⟨xb, 1, none⟩ = some (.string os) := (B7.out.cell (p := ⟨xb, 1, none⟩) hxl).trans P1.out; clear hown hgrow hat hglt)
                  go_roundg (T.length - (j + 1))
                  case measure => omega
                  case rel => exact ⟨j + 1, by omega, by omega, by go_num, BB.out.trans (B7.out.mono BB.out.size), (by rw [HKN.out, hK3.out]; exact (srow_snoc O7.out).mono BB.out.size)⟩
        · have hje : j = T.length := by omega
          rw [hje, List.take_of_length_le (by rw [notesT_len]; exact Nat.le_refl _)] at OJ
          clear hje
          go_wp2_with fail
          go_roundg (l.length - (k + 1))
          case measure => omega
          case rel => exact ⟨k + 1, by omega, by omega, by go_num, BJ.out, (by rw [HNT.out]; exact OJ.out)⟩
    · have hke : k = l.length := by omega
      have OE : Hid (SRow w.heap.size wr u3 (keysN (notes l l.length) [])) := by rw [hke] at OR; exact OR.out
      clear hke
      go_wp2_with fail
      go_ret
      exact ⟨_, rfl, OE.out, BR.out⟩
end Go.Proofs.Ytnfbcmnlloipiaa
