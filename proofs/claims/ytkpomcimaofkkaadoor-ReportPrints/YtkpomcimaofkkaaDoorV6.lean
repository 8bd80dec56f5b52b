/-
  slices.Equal of ints.
  report.Print: what stands on the answer's line.
-/
import Derived.Test.YtkpomcimaofkkaaDoorV2
import Derived.Test.YtkpomcimaofkkaaDoorV5
namespace Go.Proofs.YtkpomcimaofkkaaDoor.Rp
set_option linter.unusedVariables false
set_option linter.unusedSimpArgs false
open Go.RowKit Go.Lib

/-- The int at each place of a slice of length n. -/
def IntCells (w : World) (ao : Option Addr) (xs : List Int) (n : Nat) : Prop := ∀ j, j < n → ∃ b o, ao = some ⟨b, o, none⟩ ∧ w.cell? ⟨b, o + j, none⟩ = some (.int .i64 (xs.getD j default))
theorem IntsIn.cells {S : Nat → Prop} {w : World} {v : Value} {l : List Int} (h : IntsIn S w v l) : ∃ ao c, v = .slice ao l.length c ∧ (l.length * 8 ≤ 140737488355328 ∧ l.length ≤ c) ∧ IntCells w ao l l.length := by
  obtain ⟨ao, c, hv, hl, hc⟩ := h
  refine ⟨ao, c, hv, hl, fun j hj => ?_⟩
  obtain ⟨b, off, ha, _, hcc⟩ := hc (by omega)
  exact ⟨b, off, ha, hcc j hj⟩
end Go.Proofs.YtkpomcimaofkkaaDoor.Rp
namespace Go.Proofs.YtkpomcimaofkkaaDoor.Rp
set_option linter.unusedVariables false
set_option linter.unusedSimpArgs false
open Go.RowKit Go.Lib

theorem wpList_appendS {ops : Array Oper} {rest : List Oper} {o : Oper} {a : Act} {Q : Exit → Act → World → Prop} (w : World) (hgd : o.guard = none) (s x : Operand)
    (hop : o.op = Op.call { callee := Callee.builtin Builtin.append, args := #[s, x], argTypes := #[34, 34] })
    (B : Nat) (v : Value) (l : List ByteArray) (hs : a.eval s = v) (hown : SS B w v l) (hB : B ≤ w.heap.size)
    (r : List ByteArray) (n : Nat) (hn : r.length = n) (nb : Nat) (hx : a.eval x = .slice (some ⟨nb, 0, none⟩) n n) (hblk : w.heap[nb]? = some (.cells (r.map Value.string).toArray 9)) (hlen : l.length ≤ 400000) (hr0 : 0 < r.length) (hr : r.length ≤ 1000)
    (h : ∀ v' w', SS B w' v' (l ++ r) → Below B w w' → wpList Tryd.prog ops Q rest (a.put o.dst v') w') : wpList Tryd.prog ops Q (o :: rest) a w := by
  obtain ⟨i0, hi0, hz0, hz1, hz2⟩ := info_parts Tryd.infoStr
  subst hn
  refine wpList_append_lies w hgd s x 34 hop B 9 i0 _ 1 16 Tryd.underlying34 hi0 hz0 hz1 hz2 rfl (by decide) v l.length (l.map Value.string) hs hown ⟨nb, 0, none⟩ r.length r.length (r.map Value.string) hx (by simp) (World.news_of_block (cs := (r.map Value.string).toArray) (t := 9) (fr := (0, 0)) hblk) (fun u hu => ?_) hr0 (by unfold maxLen; omega) (by omega) hB _ rfl ?_
  · obtain ⟨b, _, rfl⟩ := List.mem_map.1 hu
    rfl
  · intro g cap w' q1 q2 q3 _
    refine h _ w' ?_ ((Below.refl B _).grown q2 hB (fun b c => (hown.block c).1))
    unfold SS
    rw [List.length_append, List.map_append]
    exact q1
theorem take_more {l : List Int} {k : Nat} {x : Int} (hk : k < l.length) (hx : l.getD k default = x) : (l.take (k + 1)).map decB = (l.take k).map decB ++ [decB x] := by
  rw [List.take_succ_eq_append_getElem hk, List.map_append]
  have e : l[k] = x := by rw [← hx]; simp [List.getD, List.getElem?_eq_getElem hk]
  rw [e]
  rfl
set_option maxHeartbeats 8000000 in
set_option maxRecDepth 100000 in
theorem ansp_is (t : Int) (u : Bool) (aa : Option Addr) (an ac : Nat) (e x : Int) (oa : Option Addr) (os : List Int) (oc : Nat) (w : World) (ho : IntsIn All w (.slice oa os.length oc) os) (hn : os.length ≤ 300) (hR : ∀ n ∈ os, i64R n) (hT : Pow w.heap.size w) :
    Calls Tryd.prog 16 #[.agg #[.int .i64 t, .bool u, .slice aa an ac, .int .i64 e, .int .i64 x, .slice oa os.length oc]] w fun en w' => ∃ v, en = .returned v ∧ SS w.heap.size w' v (ansParts x os) ∧ Below w.heap.size w w' := by
  have BX := box_new w #[.int .i64 t, .bool u, .slice aa an ac, .int .i64 e, .int .i64 x, .slice oa os.length oc] 25
  have A1 := hid (below_box w (.cells #[.int .i64 t, .bool u, .slice aa an ac, .int .i64 e, .int .i64 x, .slice oa os.length oc] 25))
  obtain ⟨W, hW⟩ : ∃ W, w.alloc (.cells #[.int .i64 t, .bool u, .slice aa an ac, .int .i64 e, .int .i64 x, .slice oa os.length oc] 25) = W := ⟨_, rfl⟩
  obtain ⟨o, hoo⟩ : ∃ o, w.heap.size = o := ⟨_, rfl⟩
  have BW1 : Hid (Below w.heap.size w W) := by rw [← hW]; exact A1.out
  rw [hW, hoo] at BX
  have HBX := hid BX
  have c4 : W.cell? ⟨o, 4, none⟩ = some (.int .i64 x) := BX.cell 4
  obtain ⟨lb, hlb⟩ : ∃ lb, wordN answerWs x = lb := ⟨_, rfl⟩
  have Hlb := hid hlb
  have PW : Hid (∀ V, Below W.heap.size W V → Pow V.heap.size V) := fun V hb => hT.later (BW1.out.trans (hb.mono BW1.out.size)) (Nat.le_trans BW1.out.size hb.size)
  have BLE : Hid (∀ V, Below W.heap.size W V → W.heap.size ≤ V.heap.size) := fun V hb => hb.size
  have HO := hid ho
  have HRo := hid hR
  have hni : (os.length : Int) ≤ 300 := by omega
  clear BX hlb A1 hT ho hR
  go_enter Tryd.func16, Tryd.ntmps16
  go_wp2_with fail
  clear hW
  refine wp_region_ask Tryd.mixedOrders (by kernel_rfl) (fun val => { tmps := #[_, _, _, val 5, _, _, val 0, val 1, val 2, val 3, val 4, _, _, _, _, _, _, _, _, _, _, _, _, _, _, _, _, _, _, _, _, _, _, _], defers := [] }) (fun i y V => match i with | 0 => ∃ g, y = .slice (some ⟨g, 0, none⟩) 4 4 ∧ WordsAt V g answerWs | 1 => y = .pointer (some ⟨o, 4, none⟩) | 2 => y = .int .i64 x | 3 => y = .string lb | 4 => ∃ g, y = .slice (some ⟨g, 0, none⟩) 2 2 ∧ W.heap.size ≤ g ∧ BoxW V g 9 #[.string ⟨#[97, 110, 115, 119, 101, 114]⟩, .string lb] | 5 => ∃ g, y = .slice (some ⟨g, 0, none⟩) 2 2 ∧ W.heap.size ≤ g ∧ BoxW V g 9 #[.string ⟨#[97, 110, 115, 119, 101, 114]⟩, .string lb] | _ => True) (fun i => match i with | 0 => undef | 1 => undef | 2 => undef | 3 => undef | 4 => undef | 5 => undef | _ => undef) rfl ?_ _ rfl ⟨?_, ?_, ?_, ?_, ?_, ?_, trivial⟩ ?_
  · intro i v w w' h hb
    match i, h with
    | 0, h => exact h.imp fun g q => ⟨q.1, q.2.below hb⟩
    | 1, h => exact h
    | 2, h => exact h
    | 3, h => exact h
    | 4, h => exact h.imp fun g q => ⟨q.1, q.2.1, q.2.2.later hb⟩
    | 5, h => exact h.imp fun g q => ⟨q.1, q.2.1, q.2.2.later hb⟩
    | _ + 6, h => trivial
  · refine ask_plain rfl (fun _ _ => rfl) (fun val V hb hd => ?_)
    refine does_call (f := 26) (args := #[]) ?_ (answers_is V) ?_
    · simp [execOp, Act.eval, go_sem, resolve, invoke]
    · rintro e w2 ⟨rfl, rfl⟩
      exact ⟨_, rfl, ⟨_, rfl, words_is V answerWs⟩, below_box V _⟩
  · refine ask_plain rfl (fun _ _ => rfl) (fun val V hb hd => ?_)
    refine does_value (v := .pointer (some ⟨o, 4, none⟩)) ?_ rfl
    simp [execOp, Act.eval, go_sem]
  · refine ask_plain rfl (fun _ _ => rfl) (fun val V hb hd => ?_)
    have h1 : val 1 = .pointer (some ⟨o, 4, none⟩) := depsAll_get hd 1 (by kernel_rfl)
    have e_ := rx_later hb c4
    refine does_value (v := .int .i64 x) ?_ rfl
    simp [execOp, Act.eval, go_sem, h1, e_]
  · refine ask_plain rfl (fun _ _ => rfl) (fun val V hb hd => ?_)
    obtain ⟨g, h0, hg⟩ := depsAll_get hd 0 (by kernel_rfl)
    have h2 : val 2 = .int .i64 x := depsAll_get hd 2 (by kernel_rfl)
    refine does_call (f := 25) (args := #[.slice (some ⟨g, 0, none⟩) 4 4, .int .i64 x]) ?_ (wordOf_is g 4 answerWs _ V hg (by decide)) ?_
    · simp [execOp, Act.eval, go_sem, resolve, invoke, h0, h2]
    · rintro e w2 ⟨rfl, rfl⟩
      exact ⟨_, rfl, by show _ = _; rw [Hlb.out], Below.refl _ _⟩
  · refine ask_plain rfl (fun _ _ => rfl) (fun val V hb hd => ?_)
    have h3 : val 3 = .string lb := depsAll_get hd 3 (by kernel_rfl)
    refine does_grown (v := .slice (some ⟨V.heap.size, 0, none⟩) 2 2) (w' := V.alloc (.cells #[.string ⟨#[97, 110, 115, 119, 101, 114]⟩, .string lb] 9)) ?_ ⟨_, rfl, BLE.out V hb, box_new V _ 9⟩ (below_box V _)
    simp [execOp, Act.eval, go_sem, h3]
  · refine ask_plain rfl (fun _ _ => rfl) (fun val V hb hd => ?_)
    obtain ⟨g, h4, hg, hbx⟩ := depsAll_get hd 4 (by kernel_rfl)
    refine does_value (v := .slice (some ⟨g, 0, none⟩) 2 2) ?_ ⟨g, rfl, hg, hbx⟩
    simp [execOp, Act.eval, go_sem, h4]
  · intro val V hb hR
    obtain ⟨g0, hr, hg0, hbx⟩ : ∃ g, val 5 = .slice (some ⟨g, 0, none⟩) 2 2 ∧ W.heap.size ≤ g ∧ BoxW V g 9 #[.string ⟨#[97, 110, 115, 119, 101, 114]⟩, .string lb] := hR 5 (by decide)
    have BV := hid hb
    have S0 : Hid (SS W.heap.size V (.slice (some ⟨g0, 0, none⟩) 2 2) [wAnswer, lb]) := SS.made (l := [wAnswer, lb]) hbx hg0 (by simp)
    have d4 : V.cell? ⟨o, 4, none⟩ = some (.int .i64 x) := (HBX.out.later hb).cell 4
    clear hR hb hbx hg0
    simp only [hr]
    clear hr c4
    by_cases hx : x = 1
    · subst hx
      have HA : Hid (ansParts 1 os = [wAnswer, lb] ++ [⟨#[40]⟩] ++ os.map decB ++ [⟨#[41]⟩]) := by
        show _ = _
        unfold ansParts
        rw [Hlb.out, if_pos rfl]
        simp [mOpen, mClose]
      have d5 : V.cell? ⟨o, 5, none⟩ = some (.slice oa os.length oc) := (HBX.out.later BV.out).cell 5
      go_wp2_with (at_builtin; refine wpList_appendS _ rfl _ _ rfl W.heap.size _ [wAnswer, lb] rfl (S0.out.below (below_box V _) (Nat.le_refl _)) (Nat.le_trans BV.out.size (below_box V _).size) [⟨#[40]⟩] 1 rfl V.heap.size rfl (heap_alloc_new V _) (by simp) (by simp) (by simp) ?_; intro v1 V1 hs1 hb1; have S1 := hid hs1; have B1 : Hid (Below W.heap.size W V1) := (BV.out.trans ((below_box V _).mono BV.out.size)).trans hb1; have d6 : V1.cell? ⟨o, 5, none⟩ = some (.slice oa os.length oc) := (HBX.out.later B1.out).cell 5; clear hs1 hb1 S0 BV d4 d5)
      go_loopg [3, 5, 21] os.length (fun gg v3 _ i wr => ∃ k : Nat, k ≤ os.length ∧ os.length - k ≤ gg ∧ i = .int .i64 k ∧ Aside (SS W.heap.size wr v3 ([wAnswer, lb] ++ [⟨#[40]⟩] ++ (os.take k).map decB)) ∧ Aside (Below W.heap.size W wr))
      case atStart => exact ⟨0, Nat.zero_le _, by omega, rfl, by show SS _ _ _ _; simpa using S1.out, B1.out⟩
      case round =>
        clear S1 B1 d6
        obtain ⟨k, hk, hg, rfl, SR, BR⟩ := hrel
        by_cases hlt : k < os.length
        · have hlti : (k : Int) < os.length := by omega
          have hk0 : (0 : Int) ≤ k := by omega
          have HOR := HO.out.keep (T := All) (fun b _ hbl => (BW1.out.trans (BR.out.mono BW1.out.size)).block b hbl) (fun _ _ _ => trivial)
          obtain ⟨oa2, oc2, e2, _, hc⟩ := HOR.cells
          obtain ⟨b, off, hab, hcell⟩ := hc k hlt
          simp only [Value.slice.injEq, true_and] at e2
          obtain ⟨e2, e3⟩ := e2
          subst hab
          subst e2
          subst e3
          obtain ⟨n, hnn⟩ : ∃ n, os.getD k default = n := ⟨_, rfl⟩
          have hrn := HRo.out (os.getD k default) (by simp [List.getD, List.getElem?_eq_getElem hlt])
          rw [hnn] at hcell hrn
          have HX := hid hnn
          obtain ⟨d, hd⟩ : ∃ d, decB n = d := ⟨_, rfl⟩
          have IT : Hid (Calls Tryd.prog 12 #[.int .i64 n] wr fun e w' => e = .returned (.string d) ∧ Below wr.heap.size wr w') := by rw [← hd]; exact itoa_is n hrn wr (PW.out wr BR.out)
          have HD := hid hd
          have HLn : Hid (([wAnswer, lb] ++ [(⟨#[40]⟩ : ByteArray)] ++ (os.take k).map decB).length ≤ 4000) := by
            show _ ≤ _
            simp
            omega
          clear hnn hrn hd HOR hc
          go_wp2_with fail
          go_at_call 12
          refine IT.out.mono ?_
          rintro e w2 ⟨rfl, b2⟩
          have B2 : Hid (Below W.heap.size W w2) := BR.out.trans (b2.mono BR.out.size)
          have S2 := hid (SR.out.below b2 (Nat.le_refl _))
          clear b2
          go_wp2_with (at_builtin; refine wpList_appendS _ rfl _ _ rfl W.heap.size u3 _ rfl (S2.out.below (below_box w2 _) (Nat.le_refl _)) (Nat.le_trans B2.out.size (below_box w2 _).size) [d] 1 rfl w2.heap.size rfl (heap_alloc_new w2 _) (by have := HLn.out; omega) (by simp) (by simp) ?_; intro v5 V5 hs5 hb5)
          have S5 := hid hs5
          have B5 : Hid (Below W.heap.size W V5) := (B2.out.trans ((below_box w2 _).mono B2.out.size)).trans hb5
          clear hs5 hb5
          go_wp2_with fail
          go_roundg (os.length - (k + 1))
          case measure => omega
          case rel =>
            refine ⟨k + 1, by omega, by omega, by go_num, ?_, B5.out⟩
            show SS _ _ _ _
            rw [take_more hlt HX.out, ← List.append_assoc, HD.out]
            exact S5.out
        · obtain rfl : k = os.length := by omega
          have HLn : Hid (([wAnswer, lb] ++ [(⟨#[40]⟩ : ByteArray)] ++ (os.take os.length).map decB).length ≤ 4000) := by
            show _ ≤ _
            simp
            omega
          go_wp2_with (at_builtin; refine wpList_appendS _ rfl _ _ rfl W.heap.size u3 _ rfl (SR.out.below (below_box wr _) (Nat.le_refl _)) (Nat.le_trans BR.out.size (below_box wr _).size) [⟨#[41]⟩] 1 rfl wr.heap.size rfl (heap_alloc_new wr _) (by have := HLn.out; omega) (by simp) (by simp) ?_; intro v5 V5 hs5 hb5)
          have S5 := hid hs5
          have B5 : Hid (Below W.heap.size W V5) := (BR.out.trans ((below_box wr _).mono BR.out.size)).trans hb5
          clear hs5 hb5
          go_wp2_with fail
          go_ret
          refine ⟨_, rfl, ?_, BW1.out.trans (B5.out.mono BW1.out.size)⟩
          have h := S5.out
          rw [List.take_of_length_le (Nat.le_refl _)] at h
          rw [HA.out]
          exact h.mono BW1.out.size
    · have hx2 : (x != 1) = true := by simpa using hx
      have HA : Hid (ansParts x os = [wAnswer, lb]) := by
        show _ = _
        unfold ansParts
        rw [Hlb.out, if_neg hx]
        simp
      go_wp2_with fail
      go_ret
      refine ⟨_, rfl, ?_, BW1.out.trans (BV.out.mono BW1.out.size)⟩
      rw [HA.out]
      exact S0.out.mono BW1.out.size
end Go.Proofs.YtkpomcimaofkkaaDoor.Rp
