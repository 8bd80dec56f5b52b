/-
  The document's Mixed.
  The document's filled.
  The document's completes.
  The document's step.
-/
import Derived.Test.YtjobdfgcgnpppaaDoorJ6
import Derived.Test.YtjobdfgcgnpppaaDoorJ8
import Derived.OwnWalk
namespace Go.Proofs.YtjobdfgcgnpppaaDoor
set_option linter.unusedVariables false
set_option linter.unusedSimpArgs false
open Go.RowKit Go.Lib Go.Maps

theorem Tryd.infoS : (Tryd.prog.info? 40).map (fun i => (i.zero, i.size, i.bytes)) = some (some (.slice none 0 0), 1, 24) := by kernel_rfl
/-- append([][]T{}, l...), l a row of one's own. -/
theorem wpList_copyV {ops : Array Oper} {rest : List Oper} {o : Oper} {a : Act} {Q : Exit → Act → World → Prop} (B Ba : Nat) (w : World) (hgd : o.guard = none) (s x : Operand)
    (ho : o.op = .call { callee := .builtin .append, args := #[s, x], argTypes := #[52, 52] }) (g0 : Nat) (hs : a.eval s = .slice (some ⟨g0, 0, none⟩) 0 0) (hg0 : w.heap[g0]? = some (.cells #[] 40 (0, 0))) (hB : B ≤ g0)
    (av : Value) (hx : a.eval x = av) (n : Nat) (vals : List Value) (hn : n ≤ 1000) (hi : w.ownsRow Ba 40 1 av n vals) (hone : ∀ u ∈ vals, u.oneCell' = true)
    (hK : ∀ v' w', w'.ownsRow B 40 1 v' n vals → Below g0 w w' → wpList Tryd.prog ops Q rest (a.put o.dst v') w') : wpList Tryd.prog ops Q (o :: rest) a w := by
  obtain ⟨i0, hi0, hz0, hz1, hz2⟩ := info_parts Tryd.infoS
  have hlt : g0 < w.heap.size := (Array.getElem?_eq_some_iff.1 hg0).1
  have row0 : w.ownsRow B 40 1 (.slice (some ⟨g0, 0, none⟩) 0 0) 0 [] := ⟨rfl, .inr ⟨g0, 0, #[], rfl, hB, hg0, Nat.le_refl _, by unfold maxLen; omega, rfl, rfl⟩⟩
  obtain ⟨la, lc, rfl⟩ := own_slice hi
  have hvl : vals.length = n := by have := hi.1; omega
  by_cases hn0 : n = 0
  · subst hn0
    have hxs : vals = [] := List.length_eq_zero_iff.1 hvl
    subst hxs
    refine wpList_plain hgd fun K hK' => ?_
    have hrun : (Builtin.append_ #[52, 52] o.type #[.slice (some ⟨g0, 0, none⟩) 0 0, .slice la 0 lc]).run Tryd.prog w = .ok (.slice (some ⟨g0, 0, none⟩) 0 0) w := by
      cases la <;> simp [Builtin.append_, run_underlying Tryd.underlying52, sizeOf, typeInfo, hi0, Builtin.lenOf, Builtin.firstCells, storeCells, loadCells, loadCellsFrom, Result.andThen]
    unfold Oper.wp
    simp [execOp, ho, resolve, invoke, builtin, hs, hx, hrun, Result.andThen]
    exact hK' _ _ (hK _ _ row0 (Below.refl _ _))
  · obtain ⟨b, rfl⟩ : ∃ b, la = some ⟨b, 0, none⟩ := by
      rcases hi.2 with ⟨hv, c⟩ | ⟨g, cap, cur, hv, _⟩
      · exact absurd c hn0
      · injection hv with a1
        exact ⟨g, a1⟩
    refine wpList_append_lies _ hgd s x 52 ho B 40 i0 (.slice none 0 0) 1 24 Tryd.underlying52 hi0 hz0 hz1 hz2 rfl (by decide) _ 0 [] hs row0 ⟨b, 0, none⟩ n lc vals hx (by omega) (fun j u hj => ?_) hone (by omega) (by unfold maxLen; omega) (by omega) (by omega) w.heap.size rfl ?_
    · exact hi.cells (g := b) rfl j u hj
    · intro g cap w4 hown hgrow hat hglt
      rw [Nat.zero_add] at hown ⊢
      exact hK _ w4 hown ⟨hgrow.os, hgrow.tape, hgrow.output, hgrow.size, fun k hk => hgrow.block k (by omega) (fun e => by
        have e' : k = g0 := by injection e
        omega)⟩
/-- Two operations of one key and two kinds. -/
def mx (o p : MOp) : Bool := (p.key.toList == o.key.toList) && (lst p.kind != lst o.kind)
theorem mx_is (o p : MOp) : mx o p = (decide (p.key = o.key) && (lst p.kind != lst o.kind)) := by
  unfold mx
  congr 1
  rw [Bool.eq_iff_iff, beq_iff_eq, decide_eq_true_eq, ByteArray.toList_eq, ByteArray.toList_eq]
  exact ⟨fun h => ByteArray.ext (Array.ext' h), fun h => by rw [h]⟩
theorem mix_form (X : List (List MOp)) (O : List MOp) : mixB X.flatten O = O.any fun o => (X ++ [O]).any fun x => x.any fun p => mx o p := by
  unfold mixB
  congr 1
  funext o
  rw [show X.flatten ++ O = (X ++ [O]).flatten by simp, List.any_flatten]
  congr 1
  funext x
  congr 1
  funext p
  exact (mx_is o p).symm
theorem any_hit {α : Type} [Inhabited α] {f : α → Bool} {l : List α} {i : Nat} (h : i < l.length) (hf : f (l.getD i default) = true) : l.any f = true := List.any_eq_true.2 ⟨l.getD i default, by simp [List.getD, List.getElem?_eq_getElem h], hf⟩
theorem any_miss {α : Type} [Inhabited α] {f : α → Bool} {l : List α} (h : ∀ i, i < l.length → f (l.getD i default) = false) : l.any f = false := by
  rw [List.any_eq_false]
  intro x hx
  obtain ⟨i, hi, rfl⟩ := List.mem_iff_getElem.1 hx
  have := h i hi
  rw [List.getD, List.getElem?_eq_getElem hi] at this
  simpa using this
/-- The rows ahead, and the last one. -/
def AllR (w : World) (vals : List Value) (X : List (List MOp)) : Prop := vals.length = X.length ∧ ∀ j, j < X.length → OpsIn Any w (vals.getD j undef) (X.getD j default)
theorem AllR.below {w w' : World} {vals : List Value} {X : List (List MOp)} (h : AllR w vals X) (hb : Below w.heap.size w w') : AllR w' vals X := ⟨h.1, fun j hj => (h.2 j hj).below hb⟩
theorem AllR.snoc {w : World} {vals : List Value} {X : List (List MOp)} {v : Value} {O : List MOp} (h : AllR w vals X) (hv : OpsIn Any w v O) : AllR w (vals ++ [v]) (X ++ [O]) := by
  refine ⟨by simp [h.1], fun j hj => ?_⟩
  simp at hj
  by_cases e : j < X.length
  · rw [getD_snoc_old e]
    have e2 : (vals ++ [v]).getD j undef = vals.getD j undef := by simp [List.getD, List.getElem?_append_left (show j < vals.length by rw [h.1]; exact e)]
    rw [e2]
    exact h.2 j e
  · have ej : j = X.length := by omega
    rw [getD_snoc_new ej]
    have e2 : (vals ++ [v]).getD j undef = v := by
      rw [ej, ← h.1]
      simp [List.getD]
    rw [e2]
    exact hv
theorem AllR.one {w : World} {vals : List Value} {X : List (List MOp)} (h : AllR w vals X) : ∀ u ∈ vals, u.oneCell' = true := fun u hu => by
  obtain ⟨i, hi, rfl⟩ := List.mem_iff_getElem.1 hu
  have := h.2 i (by rw [← h.1]; exact hi)
  rw [List.getD, List.getElem?_eq_getElem hi] at this
  obtain ⟨a, c, e, _⟩ := this
  simp only [Option.getD_some] at e
  rw [e]
  rfl
set_option maxHeartbeats 8000000 in
set_option maxRecDepth 100000 in
theorem mixed_is (w : World) (Ba n : Nat) (av v : Value) (vals : List Value) (X : List (List MOp)) (O : List MOp) (ha : w.ownsRow Ba 40 1 av n vals) (hX : AllR w vals X) (hXn : X.length = n) (hn : n ≤ 500) (hv : OpsIn Any w v O) :
    Calls Tryd.prog 21 #[av, v] w fun e w' => e = .returned (.bool (mixB X.flatten O)) ∧ Below w.heap.size w w' := by
  obtain ⟨i0, hi0, hz0, hz1, hz2⟩ := info_parts Tryd.infoS
  obtain ⟨la, lc, rfl⟩ := own_slice ha
  obtain ⟨oa, oc, rfl, hob, _⟩ := id hv
  have HO := hid hv
  have HX := hid hX
  have HA := hid ha
  have MF := hid (mix_form X O)
  have HI0 := hid hi0
  have HZ0 := hid hz0
  have HZ1 := hid hz1
  have HZ2 := hid hz2
  clear ha hX hv hi0 hz0 hz1 hz2
  obtain ⟨M, hM⟩ : ∃ M, mixB X.flatten O = M := ⟨_, rfl⟩
  rw [hM] at MF
  rw [hM]
  clear hM
  go_enter Tryd.func21, Tryd.ntmps21
  go_wp2_with (first
    | (at_builtin; refine wpList_copyV w.heap.size Ba _ rfl _ _ rfl w.heap.size rfl (heap_alloc_new w _) (Nat.le_refl _) (.slice la n lc) rfl n vals (by omega) (owns_keep HA.out (fun g hg => (below_box w _).block g (HA.out.lt g hg).2)) HX.out.one ?_; intro v1 w1 hown1 b1; have O1 := hid hown1; have B1 : Hid (Below w.heap.size w w1) := (below_box w (.cells #[] 40)).trans b1; clear hown1 b1)
    | (at_builtin; refine wpList_append_lies _ rfl _ _ 52 rfl w.heap.size 40 i0 (.slice none 0 0) 1 24 Tryd.underlying52 HI0.out HZ0.out HZ1.out HZ2.out rfl (by decide) v1 n vals rfl (owns_keep O1.out (fun g hg => (below_box w1 _).block g (O1.out.lt g hg).2)) ⟨w1.heap.size, 0, none⟩ 1 1 [.slice oa O.length oc] rfl rfl (World.news_of_block (cs := #[.slice oa O.length oc]) (t := 40) (fr := (0, 0)) (heap_alloc_new w1 _)) ?qa (by decide) (by unfold maxLen; omega) (by omega) (by have := B1.out.size; simp; omega) _ rfl ?_))
  case qa =>
    intro u hu
    rw [List.mem_singleton] at hu
    rw [hu]
    rfl
  intro g cap W hown hgrow hat hglt
  have BW1 : Hid (Below w.heap.size w W) := by
    have q : Below w.heap.size w (w1.alloc (.cells #[.slice oa O.length oc] 40)) := bstep (below_box _ _) B1.out
    refine ⟨hgrow.os.trans q.os, hgrow.tape.trans q.tape, hgrow.output.trans q.output, Nat.le_trans q.size hgrow.size, fun b hb => (hgrow.block b (Nat.lt_of_lt_of_le hb q.size) (fun e => ?_)).trans (q.block b hb)⟩
    have := (O1.out.lt b e.symm).1
    omega
  have AW : Hid (AllR W (vals ++ [.slice oa O.length oc]) (X ++ [O])) := (HX.out.below BW1.out).snoc (HO.out.below BW1.out)
  have OW : Hid (OpsIn Any W (.slice oa O.length oc) O) := HO.out.below BW1.out
  have CE : Hid (∀ j u, (vals ++ [Value.slice oa O.length oc])[j]? = some u → W.cell? ⟨g, j, none⟩ = some u) := fun j u hj => by
    have := hown.cells (g := g) rfl j u hj
    rw [Addr.add_lit] at this
    simpa using this
  have hcap : n + 1 ≤ cap := by
    rcases hown.2 with ⟨hv, _⟩ | ⟨g', cap', cur, hv, _, _, hc, _⟩
    · cases hv
    · injection hv with _ _ a3
      omega
  have XL : Hid ((X ++ [O]).length = n + 1) := by show _ = _; simp [hXn]
  clear hown hgrow hat HX HA HO O1 B1
  obtain ⟨Y, hY⟩ : ∃ Y, X ++ [O] = Y := ⟨_, rfl⟩
  obtain ⟨vs, hvs⟩ : ∃ vs, vals ++ [Value.slice oa O.length oc] = vs := ⟨_, rfl⟩
  rw [hY] at AW XL MF
  rw [hvs] at AW CE
  clear hY hvs
  have hOl : (O.length : Int) ≤ 9223372036854775807 := by omega
  have hni : (n : Int) ≤ 500 := by omega
  go_wp2_with fail
  go_loopg [7, 9, 11, 20] O.length (fun gg _ _ _ i wr => ∃ k : Nat, k ≤ O.length ∧ O.length - k ≤ gg ∧ i = .int .i64 k ∧ Aside (Below W.heap.size W wr) ∧ Aside (∀ a, a < k → (Y.any fun x => x.any fun p => mx (O.getD a default) p) = false))
  case atStart => exact ⟨0, Nat.zero_le _, by omega, rfl, Below.refl _ _, fun a ha => absurd ha (Nat.not_lt_zero _)⟩
  case round =>
    obtain ⟨k, hk, hgk, rfl, BR, AR⟩ := hrel
    by_cases hlt : k < O.length
    · have hlti : (k : Int) < (O.length : Int) := by omega
      obtain ⟨_, _, e0, _, hc0⟩ := RowsIn.cells OW.out (by decide)
      injection e0 with e1 _ e3
      clear e3
      subst e1
      obtain ⟨b1, o1, cs, rfl, hb1, _, ⟨lv, rfl, i1⟩, q1⟩ := hc0 k hlt
      obtain ⟨pa, pc, rfl, -⟩ := id i1
      have d0 : wr.cell? ⟨b1, o1 + k * 6, none⟩ = _ := cell_later BR.out (q1 0 _ rfl)
      have d1 := cell_later BR.out (q1 1 _ rfl)
      have d2 := cell_later BR.out (q1 2 _ rfl)
      have d3 := cell_later BR.out (q1 3 _ rfl)
      have d4 := cell_later BR.out (q1 4 _ rfl)
      have d5 := cell_later BR.out (q1 5 _ rfl)
      have HIT : Hid ((Y.any fun x => x.any fun p => mx (O.getD k default) p) = true → M = true) := fun h => by
        have q := any_hit (f := fun o => Y.any fun x => x.any fun p => mx o p) hlt h
        exact MF.out.trans q
      have NXT : Hid ((Y.any fun x => x.any fun p => mx (O.getD k default) p) = false → ∀ a, a < k + 1 → (Y.any fun x => x.any fun p => mx (O.getD a default) p) = false) := fun h a ha => by
        by_cases e : a = k
        · rw [e]; exact h
        · exact AR.out a (by omega)
      generalize O.getD k default = Z at *
      obtain ⟨W2, hW2⟩ : ∃ W2, wr.alloc (.cells #[.int .i64 Z.kind, .string Z.key, .int .i64 Z.value, .slice pa Z.list.length pc, .bool Z.has, .bool Z.nl] 76) = W2 := ⟨_, rfl⟩
      have BR2 : Hid (Below W.heap.size W W2) := by rw [← hW2]; exact bstep (below_box _ _) BR.out
      obtain ⟨zb, hzb⟩ : ∃ zb, wr.heap.size = zb := ⟨_, rfl⟩
      have zc : Hid (∀ i, W2.cell? ⟨zb, i, none⟩ = (#[.int .i64 Z.kind, .string Z.key, .int .i64 Z.value, .slice pa Z.list.length pc, .bool Z.has, .bool Z.nl] : Array Value)[i]?) := fun i => by
        rw [← hW2, ← hzb]
        exact new_cells wr _ 76 i
      clear q1 hc0 i1
      go_wp2_with fail
      clear hW2 hzb d0 d1 d2 d3 d4 d5 BR AR
      go_loopg [9, 11, 26] (n + 1) (fun gg _ _ i wr => ∃ j : Nat, j ≤ n + 1 ∧ n + 1 - j ≤ gg ∧ i = .int .i64 j ∧ Aside (Below W2.heap.size W2 wr) ∧ Aside (∀ a, a < j → ((Y.getD a default).any fun p => mx Z p) = false))
      case atStart => exact ⟨0, Nat.zero_le _, by omega, rfl, Below.refl _ _, fun a ha => absurd ha (Nat.not_lt_zero _)⟩
      case round =>
        obtain ⟨j, hj, hgj, rfl, BJ, AJ⟩ := hrel
        by_cases hltj : j < n + 1
        · have hltji : (j : Int) < (n : Int) + 1 := by omega
          have hjY : j < Y.length := by rw [XL.out]; exact hltj
          have hvj : vs[j]? = some (vs.getD j undef) := by
            have : j < vs.length := by rw [AW.out.1]; exact hjY
            simp [List.getD, List.getElem?_eq_getElem this]
          have cj := cell_later (bstep BJ.out BR2.out) (CE.out j _ hvj)
          have oj := (AW.out.2 j hjY).below (bstep BJ.out BR2.out)
          have HITJ : Hid (((Y.getD j default).any fun p => mx Z p) = true → M = true) := fun h => HIT.out (any_hit hjY h)
          have NXTJ : Hid (((Y.getD j default).any fun p => mx Z p) = false → ∀ a, a < j + 1 → ((Y.getD a default).any fun p => mx Z p) = false) := fun h a ha => by
            by_cases e : a = j
            · rw [e]; exact h
            · exact AJ.out a (by omega)
          generalize Y.getD j default = P at *
          obtain ⟨xa, xc, hxe, hxb, _⟩ := id oj
          rw [hxe] at cj oj
          clear hxe hvj
          have OJ := hid oj
          clear oj
          have hPl : (P.length : Int) ≤ 9223372036854775807 := by omega
          have zj : Hid (∀ i u, (#[.int .i64 Z.kind, .string Z.key, .int .i64 Z.value, .slice pa Z.list.length pc, .bool Z.has, .bool Z.nl] : Array Value)[i]? = some u → wr.cell? ⟨zb, i, none⟩ = some u) := fun i u hu => cell_later BJ.out ((zc.out i).trans hu)
          have BJ2 : Hid (Below W.heap.size W wr) := bstep BJ.out BR2.out
          go_wp2_with fail
          obtain ⟨W3, hW3⟩ : ∃ W3, wr = W3 := ⟨_, rfl⟩
          subst hW3
          go_loopg [11, 32] P.length (fun gg _ i wr' => ∃ t : Nat, t ≤ P.length ∧ P.length - t ≤ gg ∧ i = .int .i64 t ∧ Aside (Below wr.heap.size wr wr') ∧ Aside (∀ a, a < t → mx Z (P.getD a default) = false))
          case atStart => exact ⟨0, Nat.zero_le _, by omega, rfl, Below.refl _ _, fun a ha => absurd ha (Nat.not_lt_zero _)⟩
          case round =>
            rename World => wt
            obtain ⟨t, ht, hgt, rfl, BT, AT⟩ := hrel
            by_cases hltt : t < P.length
            · have hltti : (t : Int) < (P.length : Int) := by omega
              obtain ⟨_, _, e0, _, hc0⟩ := RowsIn.cells OJ.out (by decide)
              injection e0 with e1 _ e3
              clear e3
              subst e1
              obtain ⟨b2, o2, cs, rfl, hb2, _, ⟨lv, rfl, i1⟩, q1⟩ := hc0 t hltt
              obtain ⟨ya, yc, rfl, -⟩ := id i1
              have d0 : wt.cell? ⟨b2, o2 + t * 6, none⟩ = _ := cell_later BT.out (q1 0 _ rfl)
              have d1 := cell_later BT.out (q1 1 _ rfl)
              have d2 := cell_later BT.out (q1 2 _ rfl)
              have d3 := cell_later BT.out (q1 3 _ rfl)
              have d4 := cell_later BT.out (q1 4 _ rfl)
              have d5 := cell_later BT.out (q1 5 _ rfl)
              have HITT : Hid (mx Z (P.getD t default) = true → M = true) := fun h => HITJ.out (any_hit hltt h)
              have NXTT : Hid (mx Z (P.getD t default) = false → ∀ a, a < t + 1 → mx Z (P.getD a default) = false) := fun h a ha => by
                by_cases e : a = t
                · rw [e]; exact h
                · exact AT.out a (by omega)
              generalize P.getD t default = U at *
              obtain ⟨W4, hW4⟩ : ∃ W4, wt.alloc (.cells #[.int .i64 U.kind, .string U.key, .int .i64 U.value, .slice ya U.list.length yc, .bool U.has, .bool U.nl] 76) = W4 := ⟨_, rfl⟩
              have BR4 : Hid (Below wr.heap.size wr W4) := by rw [← hW4]; exact bstep (below_box _ _) BT.out
              obtain ⟨yb, hyb⟩ : ∃ yb, wt.heap.size = yb := ⟨_, rfl⟩
              have yc' : ∀ i, W4.cell? ⟨yb, i, none⟩ = (#[.int .i64 U.kind, .string U.key, .int .i64 U.value, .slice ya U.list.length yc, .bool U.has, .bool U.nl] : Array Value)[i]? := fun i => by
                rw [← hW4, ← hyb]
                exact new_cells wt _ 76 i
              have y0 := yc' 0
              have y1 := yc' 1
              have y2 := yc' 2
              have y3 := yc' 3
              have y4 := yc' 4
              have y5 := yc' 5
              simp only [List.getElem?_toArray, List.getElem?_cons_zero, List.getElem?_cons_succ] at y0 y1 y2 y3 y4 y5
              have x0 := cell_later BR4.out (zj.out 0 _ rfl)
              have x1 := cell_later BR4.out (zj.out 1 _ rfl)
              have x2 := cell_later BR4.out (zj.out 2 _ rfl)
              have x3 := cell_later BR4.out (zj.out 3 _ rfl)
              have x4 := cell_later BR4.out (zj.out 4 _ rfl)
              have x5 := cell_later BR4.out (zj.out 5 _ rfl)
              have MXE : Hid (mx Z U = ((U.key.toList == Z.key.toList) && (lst U.kind != lst Z.kind))) := rfl
              clear q1 hc0 i1 yc'
              cases hkq : (U.key.toList == Z.key.toList) with
              | false =>
                rw [hkq] at MXE
                have N2 := hid (NXTT.out MXE.out)
                clear NXTT HITT MXE
                go_wp2_with fail
                clear hW4 hyb d0 d1 d2 d3 d4 d5
                go_quiet (fail)
                go_wp2_with fail
                go_roundg (P.length - (t + 1))
                case measure => omega
                case rel => exact ⟨t + 1, by omega, by omega, by go_num, below_drewN BR4.out _, N2.out⟩
              | true =>
                rw [hkq, Bool.true_and] at MXE
                have ILS : Hid (∀ (k : Int) (s : ByteArray) (vv : Int) (a : Option Addr) (n c : Nat) (h nl : Bool) (p : BW W4), Calls Tryd.prog 35 #[.agg #[.int .i64 k, .string s, .int .i64 vv, .slice a n c, .bool h, .bool nl]] p.val fun e w'' => e = .returned (.bool (lst k)) ∧ ∃ p' : BW W4, w'' = p'.val) := fun k s vv a n c h nl p =>
                  (isList_is (k, s, vv, [], h, nl) a n c p.val).mono fun e w' ⟨h1, h2⟩ => ⟨h1, ⟨w', bstep h2 p.2⟩, rfl⟩
                have v0 := bcell y0
                have v1 := bcell y1
                have v2 := bcell y2
                have v3 := bcell y3
                have v4 := bcell y4
                have v5 := bcell y5
                have r0 := bcell x0
                have r1 := bcell x1
                have r2 := bcell x2
                have r3 := bcell x3
                have r4 := bcell x4
                have r5 := bcell x5
                have bwS : Nonempty (BW W4) := bwSome W4
                cases hl1 : lst U.kind <;> cases hl2 : lst Z.kind <;> rw [hl1, hl2] at MXE
                · have N2 := hid (NXTT.out MXE.out)
                  clear NXTT HITT MXE
                  go_wp2_with fail
                  clear hW4 hyb d0 d1 d2 d3 d4 d5
                  refine wp_region_quiet_below Tryd.mixedOrders (by kernel_rfl) ?_
                  repeat (go_big_quiet_step ((go_at_call 35; exact ILS.out _ _ _ _ _ _ _ _ _)))
                  refine wpQuiet_nil ?_
                  intro w7 hw7
                  obtain ⟨⟨V7, hb7⟩, hw8⟩ := hw7
                  have hw9 : w7 = V7 := hw8
                  subst hw9
                  have B7 := hid (bstep hb7 BR4.out)
                  clear hw8 v0 v1 v2 v3 v4 v5 r0 r1 r2 r3 r4 r5 ILS bwS hb7
                  go_wp2_with fail
                  go_roundg (P.length - (t + 1))
                  case measure => omega
                  case rel => exact ⟨t + 1, by omega, by omega, by go_num, B7.out, N2.out⟩
                · have N2 := hid (HITT.out MXE.out)
                  clear NXTT HITT MXE
                  go_wp2_with fail
                  clear hW4 hyb d0 d1 d2 d3 d4 d5
                  refine wp_region_quiet_below Tryd.mixedOrders (by kernel_rfl) ?_
                  repeat (go_big_quiet_step ((go_at_call 35; exact ILS.out _ _ _ _ _ _ _ _ _)))
                  refine wpQuiet_nil ?_
                  intro w7 hw7
                  obtain ⟨⟨V7, hb7⟩, hw8⟩ := hw7
                  have hw9 : w7 = V7 := hw8
                  subst hw9
                  have B7 := hid (bstep hb7 BR4.out)
                  clear hw8 v0 v1 v2 v3 v4 v5 r0 r1 r2 r3 r4 r5 ILS bwS hb7
                  go_wp2_with fail
                  go_ret
                  exact ⟨ret_bool N2.out.symm, bstep (bstep B7.out BJ2.out) BW1.out⟩
                · have N2 := hid (HITT.out MXE.out)
                  clear NXTT HITT MXE
                  go_wp2_with fail
                  clear hW4 hyb d0 d1 d2 d3 d4 d5
                  refine wp_region_quiet_below Tryd.mixedOrders (by kernel_rfl) ?_
                  repeat (go_big_quiet_step ((go_at_call 35; exact ILS.out _ _ _ _ _ _ _ _ _)))
                  refine wpQuiet_nil ?_
                  intro w7 hw7
                  obtain ⟨⟨V7, hb7⟩, hw8⟩ := hw7
                  have hw9 : w7 = V7 := hw8
                  subst hw9
                  have B7 := hid (bstep hb7 BR4.out)
                  clear hw8 v0 v1 v2 v3 v4 v5 r0 r1 r2 r3 r4 r5 ILS bwS hb7
                  go_wp2_with fail
                  go_ret
                  exact ⟨ret_bool N2.out.symm, bstep (bstep B7.out BJ2.out) BW1.out⟩
                · have N2 := hid (NXTT.out MXE.out)
                  clear NXTT HITT MXE
                  go_wp2_with fail
                  clear hW4 hyb d0 d1 d2 d3 d4 d5
                  refine wp_region_quiet_below Tryd.mixedOrders (by kernel_rfl) ?_
                  repeat (go_big_quiet_step ((go_at_call 35; exact ILS.out _ _ _ _ _ _ _ _ _)))
                  refine wpQuiet_nil ?_
                  intro w7 hw7
                  obtain ⟨⟨V7, hb7⟩, hw8⟩ := hw7
                  have hw9 : w7 = V7 := hw8
                  subst hw9
                  have B7 := hid (bstep hb7 BR4.out)
                  clear hw8 v0 v1 v2 v3 v4 v5 r0 r1 r2 r3 r4 r5 ILS bwS hb7
                  go_wp2_with fail
                  go_roundg (P.length - (t + 1))
                  case measure => omega
                  case rel => exact ⟨t + 1, by omega, by omega, by go_num, B7.out, N2.out⟩
            · have hltti : ¬ ((t : Int) < (P.length : Int)) := by omega
              have N2 := hid (NXTJ.out (any_miss (fun i hi => AT.out i (by omega))))
              have BN : Hid (Below W2.heap.size W2 wt) := bstep BT.out BJ.out
              clear AT
              go_wp2_with fail
              go_roundg (n + 1 - (j + 1))
              case measure => omega
              case rel => exact ⟨j + 1, by omega, by omega, by go_num, BN.out, N2.out⟩
        · have hltji : ¬ ((j : Int) < (n : Int) + 1) := by omega
          have N2 := hid (NXT.out (any_miss (fun i hi => AJ.out i (by rw [XL.out] at hi; omega))))
          have BN : Hid (Below W.heap.size W wr) := bstep BJ.out BR2.out
          clear AJ
          go_wp2_with fail
          go_roundg (O.length - (k + 1))
          case measure => omega
          case rel => exact ⟨k + 1, by omega, by omega, by go_num, BN.out, N2.out⟩
    · have hlti : ¬ ((k : Int) < (O.length : Int)) := by omega
      have N2 : Hid (M = false) := MF.out.trans (any_miss (fun i hi => AR.out i (by omega)))
      clear AR
      go_wp2_with fail
      go_ret
      exact ⟨ret_bool N2.out.symm, bstep BR.out BW1.out⟩
end Go.Proofs.YtjobdfgcgnpppaaDoor
namespace Go.Proofs.YtjobdfgcgnpppaaDoor
set_option linter.unusedVariables false
set_option linter.unusedSimpArgs false
open Go.RowKit

def rdK (k : Int) : Bool := k == 2 || k == 4
def filB (O : List MOp) (want : Bool) : Bool := O.all fun o => !rdK o.kind || (o.has == want)
theorem fil_fit {e : MEv} (h : ∀ o ∈ e.ops, okK o) : filB e.ops (e.kind == 2) = fitB e := by
  unfold filB fitB
  rw [Bool.eq_iff_iff, List.all_eq_true, List.all_eq_true]
  refine forall_congr' fun o => imp_congr_right fun ho => ?_
  have h1 := (h o ho).1
  have h2 := (h o ho).2
  have hk : o.kind = 1 ∨ o.kind = 2 ∨ o.kind = 3 ∨ o.kind = 4 := by omega
  have e2 : (!rdK o.kind) = wrt o.kind := by
    rcases hk with q | q | q | q <;> rw [q] <;> rfl
  rw [e2]
set_option maxHeartbeats 2000000 in
theorem filled_is {S : Nat → Prop} (v : Value) (O : List MOp) (want : Bool) (w : World) (h : OpsIn S w v O) : Calls Tryd.prog 33 #[v, .bool want] w fun e w' => e = .returned (.bool (filB O want)) ∧ Below w.heap.size w w' := by
  obtain ⟨a1, c1, rfl, l1, k1⟩ := RowsIn.cells h (by omega)
  have HC := hid k1
  have hOl : (O.length : Int) ≤ 9223372036854775807 := by omega
  clear h k1
  go_enter Tryd.func33, Tryd.ntmps33
  go_wp2_with fail
  go_loopg [6, 9] O.length (fun g _ i wr => ∃ k : Nat, k ≤ O.length ∧ O.length - k ≤ g ∧ i = .int .i64 k ∧ Aside (Below w.heap.size w wr) ∧ Aside (∀ j, j < k → (!rdK (O.getD j default).kind || ((O.getD j default).has == want)) = true))
  case atStart => exact ⟨0, Nat.zero_le _, by omega, rfl, Below.refl _ _, fun j hj => absurd hj (Nat.not_lt_zero _)⟩
  case round =>
    obtain ⟨k, hk, hg, rfl, BW, A⟩ := hrel
    by_cases hlt : k < O.length
    · have hlti : (k : Int) < (O.length : Int) := by omega
      obtain ⟨b1, o1, cs1, rfl, hb1, _, ⟨lv, rfl, i1⟩, q1⟩ := HC.out k hlt
      obtain ⟨la, lc, rfl, -⟩ := id i1
      have d0 : wr.cell? ⟨b1, o1 + k * 6, none⟩ = _ := (BW.out.cell (p := ⟨b1, o1 + k * 6, none⟩) hb1).trans (q1 0 _ rfl)
      have d1 := (BW.out.cell (p := ⟨b1, o1 + k * 6 + 1, none⟩) hb1).trans (q1 1 _ rfl)
      have d2 := (BW.out.cell (p := ⟨b1, o1 + k * 6 + 2, none⟩) hb1).trans (q1 2 _ rfl)
      have d3 := (BW.out.cell (p := ⟨b1, o1 + k * 6 + 3, none⟩) hb1).trans (q1 3 _ rfl)
      have d4 := (BW.out.cell (p := ⟨b1, o1 + k * 6 + 4, none⟩) hb1).trans (q1 4 _ rfl)
      have d5 := (BW.out.cell (p := ⟨b1, o1 + k * 6 + 5, none⟩) hb1).trans (q1 5 _ rfl)
      have BN : ∀ o, Hid (Below w.heap.size w (wr.alloc o)) := fun o => BW.out.trans (((Below.refl _ wr).alloc (Nat.le_refl _) _).mono BW.out.size)
      have NX : Hid ((!rdK (O.getD k default).kind || ((O.getD k default).has == want)) = true → ∀ j, j < k + 1 → (!rdK (O.getD j default).kind || ((O.getD j default).has == want)) = true) := fun h j hj => by
        by_cases e : j = k
        · rw [e]; exact h
        · exact A.out j (by omega)
      have ML : Hid ((!rdK (O.getD k default).kind || ((O.getD k default).has == want)) = false → filB O want = false) := fun h => all_miss (l := O) hlt h
      generalize O.getD k default = X at *
      obtain ⟨xk, xs, xv, xl, xh, xn⟩ := X
      simp only [MOp.kind, MOp.has, MOp.key, MOp.value, MOp.list, MOp.nl] at *
      clear q1 i1
      have RK : Hid (rdK xk = ((xk == (2 : Int)) || (xk == (4 : Int)))) := rfl
      cases h2 : (xk == (2 : Int)) <;> cases h4 : (xk == (4 : Int)) <;> rw [h2, h4] at RK <;> rw [show rdK xk = _ from RK.out] at NX ML
      · have N2 := hid (NX.out rfl)
        clear NX ML RK
        go_wp2_with fail
        go_roundg (O.length - (k + 1))
        case measure => omega
        case rel => exact ⟨k + 1, by omega, by omega, by go_num, (BN _).out, N2.out⟩
      all_goals
        cases xh <;> cases want <;>
        first
        | (have N2 := hid (NX.out rfl); clear NX ML RK; go_wp2_with fail; go_roundg (O.length - (k + 1)); (case measure => omega); (case rel => exact ⟨k + 1, by omega, by omega, by go_num, (BN _).out, N2.out⟩))
        | (have M2 := hid (ML.out rfl); clear NX ML RK; go_wp2_with fail; go_ret; exact ⟨ret_bool M2.out.symm, (BN _).out⟩)
    · have hlti : ¬ (k : Int) < (O.length : Int) := by omega
      have HA : Hid (filB O want = true) := by
        show filB O want = true
        unfold filB
        rw [List.all_eq_true]
        intro o ho
        obtain ⟨m, hm, rfl⟩ := List.mem_iff_getElem.1 ho
        have := A.out m (by omega)
        rw [List.getD, List.getElem?_eq_getElem hm] at this
        exact this
      go_wp2_with fail
      go_ret
      exact ⟨ret_bool HA.out.symm, BW.out⟩
end Go.Proofs.YtjobdfgcgnpppaaDoor
namespace Go.Proofs.YtjobdfgcgnpppaaDoor
set_option linter.unusedVariables false
set_option linter.unusedSimpArgs false
open Go.RowKit

set_option maxHeartbeats 8000000 in
set_option maxRecDepth 100000 in
theorem comp_walk {S T : Nat → Prop} (a1 a2 : Option Addr) (c1 c2 n : Nat) (xs ys : List MOp) (w : World) (hx : xs.length = n) (hy : ys.length = n) (hbig : n ≤ 9223372036854775807)
    (h1 : RowCells 6 (OpRow S w) w a1 xs n) (h2 : RowCells 6 (OpRow T w) w a2 ys n) : Calls Tryd.prog 34 #[.slice a1 n c1, .slice a2 n c2] w fun e w' => e = .returned (.bool (allEq askB xs ys)) ∧ Below w.heap.size w w' := by
  have HX : Hid (xs.length = n) := hx
  have HY : Hid (ys.length = n) := hy
  have H1 := hid h1
  have H2 := hid h2
  clear hx hy h1 h2
  go_enter Tryd.func34, Tryd.ntmps34
  go_wp2_with fail
  go_loopg [5, 6, 14] n (fun g _ _ i wr => ∃ k : Nat, k ≤ n ∧ n - k ≤ g ∧ i = .int .i64 k ∧ Aside (∃ q, wr = w.drewN q) ∧ Aside (∀ j, j < k → askB (xs.getD j default) (ys.getD j default) = true))
  case atStart => exact ⟨0, Nat.zero_le _, by omega, rfl, ⟨0, rfl⟩, fun j hj => absurd hj (Nat.not_lt_zero _)⟩
  case round =>
    obtain ⟨k, hk, hg, rfl, QX, A⟩ := hrel
    obtain ⟨q, rfl⟩ := QX.out
    have BQ : ∀ q', Hid (Below w.heap.size w ((w.drewN q).drewN q')) := fun q' => ⟨rfl, rfl, rfl, Nat.le_refl _, fun _ _ => rfl⟩
    by_cases hlt : k < n
    · have hlti : (k : Int) < (n : Int) := by omega
      obtain ⟨b1, o1, cs1, rfl, hb1, _, ⟨l1, rfl, i1⟩, k1⟩ := H1.out k hlt
      obtain ⟨b2, o2, cs2, rfl, hb2, _, ⟨l2, rfl, i2⟩, k2⟩ := H2.out k hlt
      have d0 : w.cell? ⟨b1, o1 + k * 6, none⟩ = _ := k1 0 _ rfl
      have d1 : w.cell? ⟨b1, o1 + k * 6 + 1, none⟩ = _ := k1 1 _ rfl
      have d2 : w.cell? ⟨b1, o1 + k * 6 + 2, none⟩ = _ := k1 2 _ rfl
      have e0 : w.cell? ⟨b2, o2 + k * 6, none⟩ = _ := k2 0 _ rfl
      have e1 : w.cell? ⟨b2, o2 + k * 6 + 1, none⟩ = _ := k2 1 _ rfl
      have e2 : w.cell? ⟨b2, o2 + k * 6 + 2, none⟩ = _ := k2 2 _ rfl
      have NX : Hid (askB (xs.getD k default) (ys.getD k default) = true → ∀ j, j < k + 1 → askB (xs.getD j default) (ys.getD j default) = true) := fun h j hj => by
        by_cases e : j = k
        · rw [e]; exact h
        · exact A.out j (by omega)
      have ML : Hid (askB (xs.getD k default) (ys.getD k default) = false → allEq askB xs ys = false) := fun h => allEq_miss _ xs ys k (by rw [HX.out]; exact hlt) h
      clear k1 k2 i1 i2
      generalize xs.getD k default = X at *
      generalize ys.getD k default = Y at *
      obtain ⟨xk, xs', xv, xl, xh, xn⟩ := X
      obtain ⟨yk, ys', yv, yl, yh, yn⟩ := Y
      simp only [MOp.kind, MOp.key, MOp.value] at d0 d1 d2 e0 e1 e2
      have AS : Hid (askB (xk, xs', xv, xl, xh, xn) (yk, ys', yv, yl, yh, yn) = ((xk == yk) && ((xs'.toList == ys'.toList) && (!((xk == (1 : Int)) || (xk == (3 : Int))) || (xv == yv))))) := rfl
      have n0 : (xk != yk) = !(xk == yk) := rfl
      have n2 : (xs'.toList != ys'.toList) = !(xs'.toList == ys'.toList) := rfl
      have n5 : (xv != yv) = !(xv == yv) := rfl
      cases q0 : (xk == yk) <;> cases q2 : (xs'.toList == ys'.toList) <;> cases q3 : (xk == (1 : Int)) <;> cases q4 : (xk == (3 : Int)) <;> cases q5 : (xv == yv) <;> rw [q0, q2, q3, q4, q5] at AS <;> rw [q0] at n0 <;> rw [q2] at n2 <;> rw [q5] at n5 <;> simp only [Bool.not_true, Bool.not_false] at n0 n2 n5 <;> rw [show askB _ _ = _ from AS.out] at NX ML <;>
      first
      | (have N2 := hid (NX.out rfl); clear NX ML AS; go_wp2_with fail; go_quiet (fail); go_wp2_with fail; go_roundg (n - (k + 1)); (case measure => omega); (case rel => exact ⟨k + 1, by omega, by omega, by go_num, ⟨_, rfl⟩, N2.out⟩))
      | (have M2 := hid (ML.out rfl); clear NX ML AS; go_wp2_with fail; go_quiet (fail); go_wp2_with fail; go_ret; exact ⟨ret_bool M2.out.symm, (BQ _).out⟩)
    · have hlti : ¬ (k : Int) < (n : Int) := by omega
      have HA : Hid (allEq askB xs ys = true) := allEq_hit _ xs ys (by rw [HX.out, HY.out]) (fun j hj => A.out j (by rw [HX.out] at hj; omega))
      go_wp2_with fail
      go_ret
      exact ⟨ret_bool HA.out.symm, ⟨rfl, rfl, rfl, Nat.le_refl _, fun _ _ => rfl⟩⟩
theorem comp_lens (a1 a2 : Option Addr) (c1 c2 n m : Nat) (w : World) (hnm : n ≠ m) : Calls Tryd.prog 34 #[.slice a1 n c1, .slice a2 m c2] w fun e w' => e = .returned (.bool false) ∧ Below w.heap.size w w' := by
  have hne : ((n : Int) != (m : Int)) = true := by rw [bne_iff_ne]; omega
  have hne2 : ((n : Int) == (m : Int)) = false := by rw [beq_eq_false_iff_ne]; omega
  go_enter Tryd.func34, Tryd.ntmps34
  go_wp2
  go_ret
  exact ⟨rfl, Below.refl _ _⟩
/-- The document's completes tells whether what is asked is the same. -/
theorem comp_is {S T : Nat → Prop} (v1 v2 : Value) (xs ys : List MOp) (w : World) (h1 : OpsIn S w v1 xs) (h2 : OpsIn T w v2 ys) : Calls Tryd.prog 34 #[v1, v2] w fun e w' => e = .returned (.bool (allEq askB xs ys)) ∧ Below w.heap.size w w' := by
  obtain ⟨a1, c1, rfl, l1, k1⟩ := RowsIn.cells h1 (by omega)
  obtain ⟨a2, c2, rfl, l2, k2⟩ := RowsIn.cells h2 (by omega)
  by_cases h : xs.length = ys.length
  · rw [← h] at k2 ⊢
    exact comp_walk a1 a2 c1 c2 xs.length xs ys w rfl h.symm (by omega) k1 k2
  · rw [show allEq askB xs ys = false from allEq_len _ xs ys h]
    exact comp_lens a1 a2 c1 c2 _ _ w h
end Go.Proofs.YtjobdfgcgnpppaaDoor
namespace Go.Proofs.YtjobdfgcgnpppaaDoor
set_option linter.unusedVariables false
set_option linter.unusedSimpArgs false
open Go.RowKit Go.Lib Go.Maps

def rsR (inv opn gn ask fit : Bool) : Int := if inv then (if gn || opn then 30 else if !fit then 32 else 0) else (if !opn then 31 else if !ask then 32 else if !fit then 32 else 0)
/-- What a step leaves: a process's two cells may be written. -/
def StepP (w : World) (sb k p : Nat) (ek r : Int) (e : Ending) (w' : World) : Prop := e = .returned (.int .i64 r) ∧ ∃ V, Below w.heap.size w V ∧ w' = if r = 0 then (if ek = 1 then V.setCell ⟨sb, p * 2 + 1, none⟩ (.int .i64 (k : Int)) else (V.setCell ⟨sb, p * 2 + 1, none⟩ (.int .i64 (-1))).setCell ⟨sb, p * 2, none⟩ (.bool (ek == 4))) else V
set_option maxHeartbeats 8000000 in
set_option maxRecDepth 100000 in
theorem step_walk {S S' : Nat → Prop} (w : World) (lb lo n lc k p sb : Nat) (ek op : Int) (O X : List MOp) (v xv : Value) (i : Nat) (inv opn gn ask fit : Bool)
    (hk : k < n) (hn : n ≤ 300) (hi : (ek == (1 : Int)) = inv) (ho : op = if opn then (i : Int) else -1)
    (c0 : w.cell? ⟨lb, lo + k * 3, none⟩ = some (.int .i64 ek)) (c1 : w.cell? ⟨lb, lo + k * 3 + 1, none⟩ = some (.int .i64 (p : Int))) (c2 : w.cell? ⟨lb, lo + k * 3 + 2, none⟩ = some v)
    (s0 : w.cell? ⟨sb, p * 2, none⟩ = some (.bool gn)) (s1 : w.cell? ⟨sb, p * 2 + 1, none⟩ = some (.int .i64 op)) (f0 : w.frozen? ⟨sb, p * 2, none⟩ = false) (f1 : w.frozen? ⟨sb, p * 2 + 1, none⟩ = false)
    (hx : opn = true → i < n ∧ w.cell? ⟨lb, lo + i * 3 + 2, none⟩ = some xv ∧ OpsIn S' w xv X ∧ allEq askB X O = ask)
    (hv : OpsIn S w v O) (hfit : filB O (ek == 2) = fit) :
    Calls Tryd.prog 20 #[.slice (some ⟨lb, lo, none⟩) n lc, .int .i64 (k : Int), .pointer (some ⟨sb, p * 2, none⟩)] w fun e w' => StepP w sb k p ek (rsR inv opn gn ask fit) e w' := by
  have hki : (k : Int) < (n : Int) := by omega
  obtain ⟨va, vc, rfl, _⟩ := id hv
  obtain ⟨W, hW⟩ : ∃ W, w.alloc (.cells #[.int .i64 ek, .int .i64 (p : Int), .slice va O.length vc] 42) = W := ⟨_, rfl⟩
  have BW1 : Hid (Below w.heap.size w W) := by rw [← hW]; exact below_box w _
  obtain ⟨xb, hxb⟩ : ∃ xb, w.heap.size = xb := ⟨_, rfl⟩
  have x0 : W.cell? ⟨xb, 0, none⟩ = some (.int .i64 ek) := by rw [← hW, ← hxb]; exact new_cells w _ 42 0
  have x1 : W.cell? ⟨xb, 1, none⟩ = some (.int .i64 (p : Int)) := by rw [← hW, ← hxb]; exact new_cells w _ 42 1
  have x2 : W.cell? ⟨xb, 2, none⟩ = some (.slice va O.length vc) := by rw [← hW, ← hxb]; exact new_cells w _ 42 2
  have t0 := cell_later BW1.out s0
  have t1 := cell_later BW1.out s1
  have hsb := World.block_lt_of_cell? _ _ s0
  have g0 : W.frozen? ⟨sb, p * 2, none⟩ = false := (BW1.out.frozen (p := ⟨sb, p * 2, none⟩) hsb).trans f0
  have g1 : W.frozen? ⟨sb, p * 2 + 1, none⟩ = false := (BW1.out.frozen (p := ⟨sb, p * 2 + 1, none⟩) hsb).trans f1
  cases inv with
  | true =>
    have hek : ek = 1 := by simpa using hi
    subst hek
    have FL : Hid (∀ V, Below W.heap.size W V → Calls Tryd.prog 33 #[.slice va O.length vc, .bool false] V fun e w' => e = .returned (.bool fit) ∧ Below W.heap.size W w') := fun V hV => by
      have q := filled_is (.slice va O.length vc) O false V (hv.keep (T := Any) (keeps_below (bstep hV BW1.out)) (fun _ _ _ => trivial))
      rw [show filB O false = fit from hfit] at q
      exact q.mono fun e w' ⟨h1, h2⟩ => ⟨h1, bstep h2 hV⟩
    cases gn with
    | true =>
      go_enter Tryd.func20, Tryd.ntmps20
      go_wp2_with fail
      go_ret
      exact ⟨rfl, W, BW1.out, (if_neg (by simp [rsR])).symm⟩
    | false =>
      cases opn with
      | true =>
        have hop : op = (i : Int) := ho
        clear ho
        subst hop
        have hi0 : (0 : Int) ≤ (i : Int) := by omega
        go_enter Tryd.func20, Tryd.ntmps20
        go_wp2_with fail
        go_ret
        exact ⟨rfl, W, BW1.out, (if_neg (by simp [rsR])).symm⟩
      | false =>
        have hop : op = -1 := ho
        clear ho
        subst hop
        cases fit with
        | false =>
          go_enter Tryd.func20, Tryd.ntmps20
          go_wp2_with (go_at_call 33; refine (FL.out _ (Below.refl _ _)).mono ?_; rintro e w2 ⟨rfl, b2⟩; have B2 := hid b2; clear b2)
          go_ret
          exact ⟨rfl, w2, bstep B2.out BW1.out, (if_neg (by simp [rsR])).symm⟩
        | true =>
          go_enter Tryd.func20, Tryd.ntmps20
          go_wp2_with (go_at_call 33; refine (FL.out _ (Below.refl _ _)).mono ?_; rintro e w2 ⟨rfl, b2⟩; have B2 := hid b2; have u1 := cell_later b2 t1; have e1 : w2.frozen? ⟨sb, p * 2 + 1, none⟩ = false := (b2.frozen (p := ⟨sb, p * 2 + 1, none⟩) (World.block_lt_of_cell? _ _ t1)).trans g1; clear b2)
          go_ret
          exact ⟨rfl, w2, bstep B2.out BW1.out, by rw [if_pos (by simp [rsR]), if_pos rfl]⟩
  | false =>
    have hek : ek ≠ 1 := by simpa using hi
    cases opn with
    | false =>
      have hop : op = -1 := ho
      clear ho
      subst hop
      go_enter Tryd.func20, Tryd.ntmps20
      go_wp2_with fail
      go_ret
      exact ⟨rfl, W, BW1.out, (if_neg (by simp [rsR])).symm⟩
    | true =>
      have hop : op = (i : Int) := ho
      clear ho
      subst hop
      obtain ⟨hin, cx, hX, hask⟩ := hx rfl
      have hi0 : (0 : Int) ≤ (i : Int) := by omega
      have hii : (i : Int) < (n : Int) := by omega
      obtain ⟨e2, he2⟩ : ∃ e2, (ek == (2 : Int)) = e2 := ⟨_, rfl⟩
      obtain ⟨e4, he4⟩ : ∃ e4, (ek == (4 : Int)) = e4 := ⟨_, rfl⟩
      have HE4 := hid he4
      rw [he2] at hfit
      have ST : Hid (∀ p : BW W, Calls Tryd.prog 34 #[xv, .slice va O.length vc] p.val fun e w'' => e = .returned (.bool ask) ∧ ∃ p' : BW W, w'' = p'.val) := fun p => by
        have q := comp_is xv (.slice va O.length vc) X O p.val (hX.keep (T := Any) (keeps_below (bstep p.2 BW1.out)) (fun _ _ _ => trivial)) (hv.keep (T := Any) (keeps_below (bstep p.2 BW1.out)) (fun _ _ _ => trivial))
        rw [hask] at q
        exact q.mono fun e w' ⟨h1, h2⟩ => ⟨h1, ⟨w', bstep h2 p.2⟩, rfl⟩
      have FL : Hid (∀ p : BW W, Calls Tryd.prog 33 #[.slice va O.length vc, .bool e2] p.val fun e w'' => e = .returned (.bool fit) ∧ ∃ p' : BW W, w'' = p'.val) := fun p => by
        have q := filled_is (.slice va O.length vc) O e2 p.val (hv.keep (T := Any) (keeps_below (bstep p.2 BW1.out)) (fun _ _ _ => trivial))
        rw [hfit] at q
        exact q.mono fun e w' ⟨h1, h2⟩ => ⟨h1, ⟨w', bstep h2 p.2⟩, rfl⟩
      have v0 := bcell (cell_later BW1.out cx)
      have v1 := bcell x2
      have v2 := bcell x0
      have v3 := bcell t1
      have bwS : Nonempty (BW W) := bwSome W
      have X0 := hid x0
      have T0 := hid t0
      have T1 := hid t1
      have hsW : sb < W.heap.size := World.block_lt_of_cell? _ _ t0
      have G0 := hid g0
      have G1 := hid g1
      have HEK := hid hek
      clear hX hask hv hfit hek hx
      cases ask with
      | false =>
        go_enter Tryd.func20, Tryd.ntmps20
        go_wp2_with fail
        clear hW
        refine wp_region_quiet_below Tryd.mixedOrders (by kernel_rfl) ?_
        repeat (go_big_quiet_step ((go_at_call 34; exact ST.out _)))
        refine wpQuiet_nil ?_
        intro w7 hw7
        obtain ⟨⟨V7, hb7⟩, hw8⟩ := hw7
        have hw9 : w7 = V7 := hw8
        subst hw9
        have B7 := hid hb7
        clear hw8 v0 v1 v2 v3 ST FL bwS hb7
        go_wp2_with fail
        go_ret
        exact ⟨rfl, w7, bstep B7.out BW1.out, (if_neg (by simp [rsR])).symm⟩
      | true =>
        cases fit with
        | false =>
          go_enter Tryd.func20, Tryd.ntmps20
          go_wp2_with fail
          clear hW
          refine wp_region_quiet_below Tryd.mixedOrders (by kernel_rfl) ?_
          repeat (go_big_quiet_step ((first | (go_at_call 34; exact ST.out _) | (go_at_call 33; exact FL.out _))))
          refine wpQuiet_nil ?_
          intro w7 hw7
          obtain ⟨⟨V7, hb7⟩, hw8⟩ := hw7
          have hw9 : w7 = V7 := hw8
          subst hw9
          have B7 := hid hb7
          clear hw8 v0 v1 v2 v3 ST FL bwS hb7
          go_wp2_with fail
          go_ret
          exact ⟨rfl, w7, bstep B7.out BW1.out, (if_neg (by simp [rsR])).symm⟩
        | true =>
          go_enter Tryd.func20, Tryd.ntmps20
          go_wp2_with fail
          clear hW
          refine wp_region_quiet_below Tryd.mixedOrders (by kernel_rfl) ?_
          repeat (go_big_quiet_step ((first | (go_at_call 34; exact ST.out _) | (go_at_call 33; exact FL.out _))))
          refine wpQuiet_nil ?_
          intro w7 hw7
          obtain ⟨⟨V7, hb7⟩, hw8⟩ := hw7
          have hw9 : w7 = V7 := hw8
          subst hw9
          have B7 := hid hb7
          have y0 := cell_later hb7 X0.out
          have u0 := cell_later hb7 T0.out
          have u1 := cell_later hb7 T1.out
          have e0 : w7.frozen? ⟨sb, p * 2, none⟩ = false := (hb7.frozen (p := ⟨sb, p * 2, none⟩) hsW).trans G0.out
          have e1 : w7.frozen? ⟨sb, p * 2 + 1, none⟩ = false := (hb7.frozen (p := ⟨sb, p * 2 + 1, none⟩) hsW).trans G1.out
          have hxs : xb ≠ sb := by omega
          have z0 : (w7.setCell ⟨sb, p * 2 + 1, none⟩ (.int .i64 (-1))).cell? ⟨xb, 0, none⟩ = some (.int .i64 ek) := (World.cell?_setCell_other _ _ _ _ (fun c => hxs (congrArg Addr.block c).symm)).trans y0
          have z1 : (w7.setCell ⟨sb, p * 2 + 1, none⟩ (.int .i64 (-1))).cell? ⟨sb, p * 2, none⟩ = some (.bool gn) := (World.cell?_setCell_other _ _ _ _ (fun c => by have := congrArg Addr.off c; simp at this)).trans u0
          clear hw8 v0 v1 v2 v3 ST FL bwS hb7
          go_wp2_with fail
          go_ret
          exact ⟨rfl, w7, bstep B7.out BW1.out, by rw [if_pos (by simp [rsR]), if_neg HEK.out, show (ek == 4) = e4 from HE4.out]⟩
end Go.Proofs.YtjobdfgcgnpppaaDoor
