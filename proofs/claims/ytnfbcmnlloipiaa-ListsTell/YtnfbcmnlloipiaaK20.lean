/-
  The document's Edges.
-/
import Derived.Test.YtnfbcmnlloipiaaK13
import Derived.Test.YtnfbcmnlloipiaaK15
import Derived.Test.YtnfbcmnlloipiaaK18
import Derived.Test.YtnfbcmnlloipiaaK19
import Derived.Lib.SmallJoins
namespace Go.Proofs.Ytnfbcmnlloipiaa
set_option linter.unusedVariables false
set_option linter.unusedSimpArgs false
open Go.RowKit Go.Lib Go.Maps
open Tx (MTxn info_parts RowsIn.cells RowCells TxnRow TxnsIn)

/-- append of a dependency to a row of one's own. -/
theorem wp_appendW {o : Oper} {A : Act} {K : Act → World → Prop} {Q : Exit → Act → World → Prop} (base : Nat) (V : World) (s x : Operand)
    (ho : o.op = .call { callee := .builtin .append, args := #[s, x], argTypes := #[38, 38] }) (out : Value) (D : List MWy) (y : MWy) (hs : A.eval s = out) (nb : Nat) (hx : A.eval x = .slice (some ⟨nb, 0, none⟩) 1 1) (hblk : V.heap[nb]? = some (.cells (whyCs y).toArray 40))
    (h1 : V.ownsRow base 40 8 out D.length (whysC D)) (hb : base ≤ V.heap.size) (hl : D.length ≤ 400000)
    (hK : ∀ v' V', V'.ownsRow base 40 8 v' (D ++ [y]).length (whysC (D ++ [y])) → Below base V V' → (∀ k, k < V.heap.size → out.ownBlock ≠ some k → V'.heap[k]? = V.heap[k]?) → K (A.put o.dst v') V') : o.wp Try.prog A V K Q := by
  obtain ⟨i0, hi0, hz0, hz1, hz2⟩ := info_parts Try.infoWy
  refine wp_append_lies V s x 38 ho base 40 i0 _ 8 64 Try.underlying38 hi0 hz0 hz1 hz2 rfl (by decide) out D.length (whysC D) hs h1 ⟨nb, 0, none⟩ 1 1 (whyCs y) hx rfl (World.news_of_block (cs := (whyCs y).toArray) (t := 40) (fr := (0, 0)) hblk) ?_ (by decide) (by unfold maxLen; omega) (by omega) hb V.heap.size rfl ?_
  · intro u hu
    simp only [whyCs, List.mem_cons, List.not_mem_nil, or_false] at hu
    rcases hu with rfl | rfl | rfl | rfl | rfl | rfl | rfl | rfl <;> rfl
  · intro g2 cap2 w4 hown hgrow hat hglt
    refine hK _ w4 ?_ ⟨hgrow.os, hgrow.tape, hgrow.output, hgrow.size, fun k hk => hgrow.block k (by omega) (fun e => ?_)⟩ (fun k hk hn => hgrow.block k hk (fun e => hn e.symm))
    · rw [whysC_snoc, List.length_append]
      exact hown
    · have := (own_block h1 e.symm).1
      omega
theorem wpList_appendW {ops : Array Oper} {rest : List Oper} {o : Oper} {A : Act} {Q : Exit → Act → World → Prop} (hgd : o.guard = none) (base : Nat) (V : World) (s x : Operand)
    (ho : o.op = .call { callee := .builtin .append, args := #[s, x], argTypes := #[38, 38] }) (out : Value) (D : List MWy) (y : MWy) (hs : A.eval s = out) (nb : Nat) (hx : A.eval x = .slice (some ⟨nb, 0, none⟩) 1 1) (hblk : V.heap[nb]? = some (.cells (whyCs y).toArray 40))
    (h1 : V.ownsRow base 40 8 out D.length (whysC D)) (hb : base ≤ V.heap.size) (hl : D.length ≤ 400000)
    (hK : ∀ v' V', V'.ownsRow base 40 8 v' (D ++ [y]).length (whysC (D ++ [y])) → Below base V V' → (∀ k, k < V.heap.size → out.ownBlock ≠ some k → V'.heap[k]? = V.heap[k]?) → wpList Try.prog ops Q rest (A.put o.dst v') V') : wpList Try.prog ops Q (o :: rest) A V :=
  wpList_plain hgd fun _ hK' => wp_appendW base V s x ho out D y hs nb hx hblk h1 hb hl (fun v' V' q1 q2 q3 => hK' _ _ (hK v' V' q1 q2 q3))
/-- Rows of unlike types lie in unlike blocks. -/
theorem rows_apart {w : World} {B B' e e' z z' n n' g : Nat} {v v' : Value} {xs xs' : List Value} (h : w.ownsRow B e z v n xs) (h' : w.ownsRow B' e' z' v' n' xs') (hne : e ≠ e') (hg : v'.ownBlock = some g) : v.ownBlock ≠ some g := fun c => by
  obtain ⟨_, _, cs, q⟩ := own_block h c
  obtain ⟨_, _, cs', q'⟩ := own_block h' hg
  rw [q] at q'
  injection q' with q'
  injection q' with _ q'
  exact hne q'
/-- What the document has told once q pairs, reads, reads were seen. -/
def dd1 (F : Int → Option MSrc) (s : ByteArray) (ts : List Int) (i : Nat) : List MWy := (List.range i).map (wwE F s ts)
def dd2 (F : Int → Option MSrc) (s : ByteArray) (ts : List Int) (RX : List MRx) (q : Nat) : List MWy := dd1 F s ts (ts.length - 1) ++ (RX.take q).flatMap (wrE F s)
def dd3 (F : Int → Option MSrc) (s : ByteArray) (ts : List Int) (RX : List MRx) (q : Nat) : List MWy := dd2 F s ts RX RX.length ++ (RX.take q).flatMap (rwE F s ts)
theorem dd1_next (F : Int → Option MSrc) (s : ByteArray) (ts : List Int) (i : Nat) : dd1 F s ts (i + 1) = dd1 F s ts i ++ [wwE F s ts i] := by
  unfold dd1
  rw [List.range_succ, List.map_append]
  rfl
theorem dd2_next (F : Int → Option MSrc) (s : ByteArray) (ts : List Int) (RX : List MRx) (q : Nat) (hq : q < RX.length) : dd2 F s ts RX (q + 1) = dd2 F s ts RX q ++ wrE F s (RX.getD q default) := by
  unfold dd2
  rw [take_flat _ _ _ hq, List.append_assoc]
theorem dd3_next (F : Int → Option MSrc) (s : ByteArray) (ts : List Int) (RX : List MRx) (q : Nat) (hq : q < RX.length) : dd3 F s ts RX (q + 1) = dd3 F s ts RX q ++ rwE F s ts (RX.getD q default) := by
  unfold dd3
  rw [take_flat _ _ _ hq, List.append_assoc]
theorem dd3_all (F : Int → Option MSrc) (s : ByteArray) (ts : List Int) (RX : List MRx) : dd3 F s ts RX RX.length = depsL F s ts RX := by
  unfold dd3 dd2 dd1 depsL
  rw [List.take_length, List.append_assoc]
theorem wrE_len (F : Int → Option MSrc) (s : ByteArray) (r : MRx) : (wrE F s r).length ≤ 1 := by
  unfold wrE
  split <;> simp
theorem rwE_len (F : Int → Option MSrc) (s : ByteArray) (ts : List Int) (r : MRx) : (rwE F s ts r).length ≤ 1 := by
  unfold rwE
  split <;> simp
theorem flat_len1 {α β : Type} (g : α → List β) (h : ∀ x, (g x).length ≤ 1) : ∀ l : List α, (l.flatMap g).length ≤ l.length
  | [] => by simp
  | a :: l => by
    rw [List.flatMap_cons, List.length_append, List.length_cons]
    have := h a
    have := flat_len1 g h l
    omega
theorem dd1_len (F : Int → Option MSrc) (s : ByteArray) (ts : List Int) (i : Nat) : (dd1 F s ts i).length = i := by simp [dd1]
theorem dd2_len (F : Int → Option MSrc) (s : ByteArray) (ts : List Int) (RX : List MRx) (q : Nat) : (dd2 F s ts RX q).length ≤ ts.length + RX.length := by
  unfold dd2
  rw [List.length_append, dd1_len]
  have := flat_len1 _ (wrE_len F s) (RX.take q)
  have : (RX.take q).length ≤ RX.length := by rw [List.length_take]; omega
  omega
theorem dd3_len (F : Int → Option MSrc) (s : ByteArray) (ts : List Int) (RX : List MRx) (q : Nat) : (dd3 F s ts RX q).length ≤ ts.length + 2 * RX.length := by
  unfold dd3
  rw [List.length_append]
  have := dd2_len F s ts RX RX.length
  have := flat_len1 _ (rwE_len F s ts) (RX.take q)
  have : (RX.take q).length ≤ RX.length := by rw [List.length_take]; omega
  omega
set_option maxHeartbeats 16000000 in
set_option maxRecDepth 100000 in
theorem redges_yes (w : World) (v : Value) (l : List MTxn) (s : ByteArray) (h : TxnsIn Any w v l) (hG : Good l) (ho : okN l s) : Calls Try.prog 20 #[v, .string s] w fun e w' => ∃ v', e = .returned v' ∧ w'.ownsRow w.heap.size 40 8 v' (edgN l s).length (whysC (edgN l s)) ∧ Below w.heap.size w w' := by
  have RT : Hid (Calls Try.prog 13 #[v, .string s] w fun e w' => ∃ ta tc, e = .returned (.tuple #[.slice ta (knwN l s (notes l l.length)).ts.length tc, .bool true]) ∧ IntsIn Any w' (.slice ta (knwN l s (notes l l.length)).ts.length tc) (knwN l s (notes l l.length)).ts ∧ Below w.heap.size w w') := (rtrace_yes w v l s h hG ho.1).mono fun e w' q => by
    obtain ⟨v', q1, q2, _, _, q5⟩ := q
    have i1 := q2 ho.2
    rw [ho.2] at q1
    obtain ⟨ta, tc, hv, _⟩ := id i1
    subst hv
    exact ⟨ta, tc, q1, i1, q5⟩
  have WR : Hid (∀ W x, Below w.heap.size w W → Calls Try.prog 47 #[v, .string s, .int .i64 x] W fun e w' => e = .returned (.tuple #[.agg #[.int .i64 ((srcN l s (notes l l.length) x).getD noSrc).1, .int .i64 ((srcN l s (notes l l.length) x).getD noSrc).2.1], .bool (srcN l s (notes l l.length) x).isSome]) ∧ Below W.heap.size W w') := fun W x hb => writer_is W v l s x (h.below hb) hG ho.1.2
  have RD : Hid (∀ W, Below w.heap.size w W → Calls Try.prog 38 #[v, .string s] W fun e w' => ∃ v' R, e = .returned v' ∧ w'.ownsRow W.heap.size 87 3 v' R.length (rdC R) ∧ RdsD Any w R (rdsN l s (notes l l.length)) ∧ Below W.heap.size W w') := fun W hb => (reads_in (S := fun b => b < w.heap.size) W v l s (h.keep (fun b _ hbl => hb.block b hbl) (fun b hbl _ => hbl)) hG).mono fun e w' q => by
    obtain ⟨v', R, q1, q2, q3, q4⟩ := q
    exact ⟨v', R, q1, q2, q3.keep (fun b hb1 _ => (hb.block b hb1).symm) (fun _ _ _ => trivial), q4⟩
  have hrl := hG.rlen (s := s)
  have htl := (hG.trace (s := s)).2
  have LEN : Hid (∀ r ∈ rdsN l s (notes l l.length), r.2.2.length ≤ 100000) := fun r hr => (hG.rop hr).2
  have EDG : Hid (edgN l s = onceW (depsL (srcN l s (notes l l.length)) s (knwN l s (notes l l.length)).ts (rdsN l s (notes l l.length)))) := rfl
  obtain ⟨a1, c1, rfl, _⟩ := RowsIn.cells h (by omega)
  clear h hG ho
  obtain ⟨EN, hEN⟩ : ∃ EN, edgN l s = EN := ⟨_, rfl⟩
  rw [hEN] at EDG
  rw [hEN]
  clear hEN
  generalize rdsN l s (notes l l.length) = RX at *
  generalize srcN l s (notes l l.length) = F at *
  generalize (knwN l s (notes l l.length)).ts = TS at *
  have hti : (TS.length : Int) ≤ 100000 := by omega
  have D1N := hid (fun i => dd1_next F s TS i)
  have D2N := hid (fun q hq => dd2_next F s TS RX q hq)
  have D3N := hid (fun q hq => dd3_next F s TS RX q hq)
  have D3A := hid (dd3_all F s TS RX)
  go_enter Try.func20, Try.ntmps20
  go_upto_region 5 with (go_at_call 13; refine RT.out.mono ?_; rintro e w1 ⟨ta, tc, rfl, i1, b1⟩; have I1 := hid i1; have B1 := hid b1; clear i1 b1)
  clear RT
  have TC : Hid (∀ W, Below w1.heap.size w1 W → ∀ i, i < TS.length → ∃ tb to, ta = some ⟨tb, to, none⟩ ∧ W.cell? ⟨tb, to + i, none⟩ = some (.int .i64 (TS.getD i default))) := fun W hb i hi => by
    obtain ⟨ao, c', hv, _, hc⟩ := id I1.out
    cases hv
    obtain ⟨b, off, e, _, h3⟩ := hc (by omega)
    exact ⟨b, off, e, (hb.cell (p := ⟨b, off + i, none⟩) (World.block_lt_of_cell? _ _ (h3 i hi))).trans (h3 i hi)⟩
  go_wp2_with fail
  go_loopg [7, 8, 9, 10, 11, 12] TS.length (fun gg out i _ _ _ _ wr => ∃ k : Nat, k ≤ TS.length - 1 ∧ TS.length - 1 - k ≤ gg ∧ i = .int .i64 k ∧ Aside (Below w1.heap.size w1 wr) ∧ Aside (wr.ownsRow w1.heap.size 40 8 out (dd1 F s TS k).length (whysC (dd1 F s TS k))))
  case atStart => exact ⟨0, Nat.zero_le _, by omega, rfl, Below.refl _ _, World.ownsRow_nil _ _ _ _⟩
  case round =>
    obtain ⟨k, hk, hgk, rfl, BR, OR⟩ := hrel
    by_cases hlt : k + 1 < TS.length
    · have hlti : (k : Int) + 1 < TS.length := by omega
      have hltk : (k : Int) < TS.length := by omega
      obtain ⟨tb, to, rfl, xa⟩ := TC.out wr BR.out k (by omega)
      have TK : Hid (∀ W, Below w1.heap.size w1 W → W.cell? ⟨tb, to + k, none⟩ = some (.int .i64 (TS.getD k default)) ∧ W.cell? ⟨tb, to + (k + 1), none⟩ = some (.int .i64 (TS.getD (k + 1) default))) := fun W hb => by
        obtain ⟨tb1, to1, e1, h1⟩ := TC.out W hb k (by omega)
        cases e1
        obtain ⟨tb2, to2, e2, h2⟩ := TC.out W hb (k + 1) hlt
        cases e2
        exact ⟨h1, h2⟩
      have DN := hid (D1N.out k)
      have HWE : Hid (wwE F s TS k = ((((F (TS.getD k default)).getD noSrc).1 : Int), (((F (TS.getD (k + 1) default)).getD noSrc).1 : Int), 1, s, TS.getD k default, TS.getD (k + 1) default, false)) := rfl
      have WRA : Hid (∀ W, Below w1.heap.size w1 W → Calls Try.prog 47 #[.slice a1 l.length c1, .string s, .int .i64 (TS.getD k default)] W fun e w' => e = .returned (.tuple #[.agg #[.int .i64 ((F (TS.getD k default)).getD noSrc).1, .int .i64 ((F (TS.getD k default)).getD noSrc).2.1], .bool (F (TS.getD k default)).isSome]) ∧ Below W.heap.size W w') := fun W hb => WR.out W _ (B1.out.trans (hb.mono B1.out.size))
      have WRB : Hid (∀ W, Below w1.heap.size w1 W → Calls Try.prog 47 #[.slice a1 l.length c1, .string s, .int .i64 (TS.getD (k + 1) default)] W fun e w' => e = .returned (.tuple #[.agg #[.int .i64 ((F (TS.getD (k + 1) default)).getD noSrc).1, .int .i64 ((F (TS.getD (k + 1) default)).getD noSrc).2.1], .bool (F (TS.getD (k + 1) default)).isSome]) ∧ Below W.heap.size W w') := fun W hb => WR.out W _ (B1.out.trans (hb.mono B1.out.size))
      generalize TS.getD k default = XA at *
      generalize TS.getD (k + 1) default = XB at *
      generalize (F XA).isSome = sa at *
      generalize (F XB).isSome = sb at *
      generalize (F XA).getD noSrc = ya at *
      generalize (F XB).getD noSrc = yb at *
      obtain ⟨p1, p2, p3, p4⟩ := ya
      obtain ⟨q1, q2, q3, q4⟩ := yb
      simp only at WRA WRB HWE
      go_upto_region 9 with (go_at_call 47; refine (WRA.out _ BR.out).mono ?_; rintro e w2 ⟨rfl, b2⟩; have B2 := hid (BR.out.trans (b2.mono BR.out.size)); have O2 := hid (own_same OR.out (fun g hg => b2.block g (own_block OR.out hg).2.1)); clear b2)
      have B3 : Hid (Below w1.heap.size w1 (w2.alloc (.cells #[.int .i64 p1, .int .i64 p2] 54))) := B2.out.trans ((below_box w2 _).mono B2.out.size)
      have O3 := hid (own_same O2.out (fun g hg => (below_box w2 (.cells #[.int .i64 p1, .int .i64 p2] 54)).block g (own_block O2.out hg).2.1))
      have P3 := hid (heap_alloc_new w2 (.cells #[.int .i64 p1, .int .i64 p2] 54))
      clear xa O2 B2 WRA OR BR
      generalize w2.alloc (.cells #[.int .i64 p1, .int .i64 p2] 54) = W3 at *
      generalize w2.heap.size = pa at *
      obtain ⟨xa, xb⟩ := TK.out W3 B3.out
      go_upto_region 10 with (go_at_call 47; refine (WRB.out _ B3.out).mono ?_; rintro e w4 ⟨rfl, b4⟩; have B4 := hid (B3.out.trans (b4.mono B3.out.size)); have O4 := hid (own_same O3.out (fun g hg => b4.block g (own_block O3.out hg).2.1)); have P4 := hid ((b4.block pa (blt P3.out)).trans P3.out); clear b4)
      have B5 : Hid (Below w1.heap.size w1 (w4.alloc (.cells #[.int .i64 q1, .int .i64 q2] 54))) := B4.out.trans ((below_box w4 _).mono B4.out.size)
      have O5 := hid (own_same O4.out (fun g hg => (below_box w4 (.cells #[.int .i64 q1, .int .i64 q2] 54)).block g (own_block O4.out hg).2.1))
      have P5 := hid (((below_box w4 (.cells #[.int .i64 q1, .int .i64 q2] 54)).block pa (blt P4.out)).trans P4.out)
      have Q5 := hid (heap_alloc_new w4 (.cells #[.int .i64 q1, .int .i64 q2] 54))
      clear xa xb O4 B4 WRB O3 B3 P3 P4
      generalize w4.alloc (.cells #[.int .i64 q1, .int .i64 q2] 54) = W at *
      generalize w4.heap.size = pb at *
      obtain ⟨xa, xb⟩ := TK.out W B5.out
      have xp : W.cell? ⟨pa, 0, none⟩ = some (.int .i64 p1) := Lib.cell_of_heap P5.out 0
      have xq : W.cell? ⟨pb, 0, none⟩ = some (.int .i64 q1) := Lib.cell_of_heap Q5.out 0
      have hdl := dd1_len F s TS k
      generalize hD : dd1 F s TS k = D at *
      clear hD
      have DNE : Hid (dd1 F s TS (k + 1) = D ++ [((p1 : Int), (q1 : Int), 1, s, XA, XB, false)]) := by show _ = _; rw [DN.out, HWE.out]
      clear DN HWE
      have hwr : IntKind.i64.wrap ((k : Int) + 1) = (k : Int) + 1 := by rw [IntKind.wrap_i64]; omega
      have hneg : ¬ (k : Int) + 1 < 0 := by omega
      have hidx : ((k : Int) + 1).toNat = k + 1 := by omega
      refine wp_region_two Try.mixedOrders (by kernel_rfl) 8 16 17 (by decide) (by decide) (fun b1 b2 V => (b1 = false → V = W.drew) ∧ (b1 = true → b2 = false → V = W.drew.alloc (.cells #[.int .i64 (p1 : Int), .int .i64 (q1 : Int), .int .i64 1, .string s, .int .i64 XA, .int .i64 XB, .bool false, .bool false] 40))) ⟨fun _ => rfl, fun c => (by cases c)⟩ (fun val => { tmps := #[_, _, _, _, _, _, _, val 18, _, _, _, _, _, _, _, _, _, _, _, _, _, _, _, _, _, _, _, _, _, _, _, _, _, _, _, _, _, _, _, _, _, _, _, _, _, _, _, _, _, _, _, _, _, _, _, _, _, _, _, _, val 0, val 1, val 2, val 3, val 4, val 5, val 6, val 7, val 8, val 9, val 10, val 11, val 12, val 13, val 14, val 15, val 16, val 17, _, _, _, _, _, _, _, _, _, _, _, _, _, _, _, _, _, _, _, _, _, _, _, _, _, _, _, _, _, _, _, _, _, _, _, _, _, _, _, _, _, _, _, _, _, _, _, _, _, _, _, _, _, _, _, _, _, _, _, _, _, _, _, _, _, _, _, _, _, _, _, _, _, _, _, _, _, _, _, _, _, _, _, _, _, _, _, _, _, _, _, _, _, _], defers := [] }) (fun i y V => match i with | 0 => y = u7 | 1 => y = .pointer (some ⟨pa, 0, none⟩) | 2 => y = .int .i64 (p1 : Int) | 3 => y = .pointer (some ⟨pb, 0, none⟩) | 4 => y = .int .i64 (q1 : Int) | 5 => y = .string s | 6 => y = .slice (some ⟨tb, to, none⟩) TS.length tc | 7 => y = .int .i64 (k : Int) | 8 => y = .pointer (some ⟨tb, to + k, none⟩) | 9 => y = .int .i64 XA | 10 => y = .slice (some ⟨tb, to, none⟩) TS.length tc | 11 => y = .int .i64 (k : Int) | 12 => y = .int .i64 ((k : Int) + 1) | 13 => y = .pointer (some ⟨tb, to + (k + 1), none⟩) | 14 => y = .int .i64 XB | 15 => y = .agg #[.int .i64 (p1 : Int), .int .i64 (q1 : Int), .int .i64 1, .string s, .int .i64 XA, .int .i64 XB, .bool false, .bool false] | 16 => y = .slice (some ⟨W.heap.size, 0, none⟩) 1 1 | 17 => V.ownsRow w1.heap.size 40 8 y (D ++ [((p1 : Int), (q1 : Int), 1, s, XA, XB, false)]).length (whysC (D ++ [((p1 : Int), (q1 : Int), 1, s, XA, XB, false)])) ∧ Below w1.heap.size W V ∧ (∀ k, k < W.heap.size → Value.ownBlock u7 ≠ some k → V.heap[k]? = W.heap[k]?) | 18 => V.ownsRow w1.heap.size 40 8 y (D ++ [((p1 : Int), (q1 : Int), 1, s, XA, XB, false)]).length (whysC (D ++ [((p1 : Int), (q1 : Int), 1, s, XA, XB, false)])) ∧ Below w1.heap.size W V ∧ (∀ k, k < W.heap.size → Value.ownBlock u7 ≠ some k → V.heap[k]? = W.heap[k]?) | _ => True) (fun i => match i with | 0 => u60 | 1 => u61 | 2 => u62 | 3 => u63 | 4 => u64 | 5 => u65 | 6 => u66 | 7 => u67 | 8 => u68 | 9 => u69 | 10 => u70 | 11 => u71 | 12 => u72 | 13 => u73 | 14 => u74 | 15 => u75 | 16 => u76 | 17 => u77 | 18 => u7 | _ => undef) rfl _ rfl ⟨?_, ?_, ?_, ?_, ?_, ?_, ?_, ?_, ?_, ?_, ?_, ?_, ?_, ?_, ?_, ?_, ?_, ?_, ?_, trivial⟩ ?_
      · refine ⟨rfl, fun _ _ => rfl, fun val V b1 b2 hg n1 n2 a1 v0 hd => ?_⟩
        have hs7 : val 18 = u7 := v0 18 (by kernel_rfl)
        refine does2_value (v := u7) hg rfl rfl ?_ rfl
        simp [execOp, Act.eval, hs7, go_sem]
      · refine ⟨rfl, fun _ _ => rfl, fun val V b1 b2 hg n1 n2 a1 v0 hd => ?_⟩
        refine does2_value (v := .pointer (some ⟨pa, 0, none⟩)) hg rfl rfl ?_ rfl
        simp [execOp, Act.eval, go_sem]
      · refine ⟨rfl, fun _ _ => rfl, fun val V b1 b2 hg n1 n2 a1 v0 hd => ?_⟩
        have h1 : val 1 = .pointer (some ⟨pa, 0, none⟩) := depsAll_get hd 1 (by kernel_rfl)
        obtain rfl : V = W.drew := hg.1 (n1 (by kernel_rfl))
        refine does2_value (v := .int .i64 (p1 : Int)) hg rfl rfl ?_ rfl
        simp [execOp, Act.eval, go_sem, h1, (show W.drew.cell? _ = _ from xp)]
      · refine ⟨rfl, fun _ _ => rfl, fun val V b1 b2 hg n1 n2 a1 v0 hd => ?_⟩
        refine does2_value (v := .pointer (some ⟨pb, 0, none⟩)) hg rfl rfl ?_ rfl
        simp [execOp, Act.eval, go_sem]
      · refine ⟨rfl, fun _ _ => rfl, fun val V b1 b2 hg n1 n2 a1 v0 hd => ?_⟩
        have h3 : val 3 = .pointer (some ⟨pb, 0, none⟩) := depsAll_get hd 3 (by kernel_rfl)
        obtain rfl : V = W.drew := hg.1 (n1 (by kernel_rfl))
        refine does2_value (v := .int .i64 (q1 : Int)) hg rfl rfl ?_ rfl
        simp [execOp, Act.eval, go_sem, h3, (show W.drew.cell? _ = _ from xq)]
      · refine ⟨rfl, fun _ _ => rfl, fun val V b1 b2 hg n1 n2 a1 v0 hd => ?_⟩
        refine does2_value (v := .string s) hg rfl rfl ?_ rfl
        simp [execOp, Act.eval, go_sem]
      · refine ⟨rfl, fun _ _ => rfl, fun val V b1 b2 hg n1 n2 a1 v0 hd => ?_⟩
        refine does2_value (v := .slice (some ⟨tb, to, none⟩) TS.length tc) hg rfl rfl ?_ rfl
        simp [execOp, Act.eval, go_sem]
      · refine ⟨rfl, fun _ _ => rfl, fun val V b1 b2 hg n1 n2 a1 v0 hd => ?_⟩
        refine does2_value (v := .int .i64 (k : Int)) hg rfl rfl ?_ rfl
        simp [execOp, Act.eval, go_sem]
      · refine ⟨rfl, fun _ _ => rfl, fun val V b1 b2 hg n1 n2 a1 v0 hd => ?_⟩
        have h6 : val 6 = .slice (some ⟨tb, to, none⟩) TS.length tc := depsAll_get hd 6 (by kernel_rfl)
        have h7 : val 7 = .int .i64 (k : Int) := depsAll_get hd 7 (by kernel_rfl)
        refine does2_value (v := .pointer (some ⟨tb, to + k, none⟩)) hg rfl rfl ?_ rfl
        simp [execOp, Act.eval, go_sem, h6, h7, hltk]
      · refine ⟨rfl, fun _ _ => rfl, fun val V b1 b2 hg n1 n2 a1 v0 hd => ?_⟩
        have h8 : val 8 = .pointer (some ⟨tb, to + k, none⟩) := depsAll_get hd 8 (by kernel_rfl)
        obtain rfl : V = W.drew := hg.1 (n1 (by kernel_rfl))
        refine does2_value (v := .int .i64 XA) hg rfl rfl ?_ rfl
        simp [execOp, Act.eval, go_sem, h8, (show W.drew.cell? _ = _ from xa)]
      · refine ⟨rfl, fun _ _ => rfl, fun val V b1 b2 hg n1 n2 a1 v0 hd => ?_⟩
        refine does2_value (v := .slice (some ⟨tb, to, none⟩) TS.length tc) hg rfl rfl ?_ rfl
        simp [execOp, Act.eval, go_sem]
      · refine ⟨rfl, fun _ _ => rfl, fun val V b1 b2 hg n1 n2 a1 v0 hd => ?_⟩
        refine does2_value (v := .int .i64 (k : Int)) hg rfl rfl ?_ rfl
        simp [execOp, Act.eval, go_sem]
      · refine ⟨rfl, fun _ _ => rfl, fun val V b1 b2 hg n1 n2 a1 v0 hd => ?_⟩
        have h11 : val 11 = .int .i64 (k : Int) := depsAll_get hd 11 (by kernel_rfl)
        refine does2_value (v := .int .i64 ((k : Int) + 1)) hg rfl rfl ?_ rfl
        simp [execOp, Act.eval, go_sem, h11, hwr]
      · refine ⟨rfl, fun _ _ => rfl, fun val V b1 b2 hg n1 n2 a1 v0 hd => ?_⟩
        have h10 : val 10 = .slice (some ⟨tb, to, none⟩) TS.length tc := depsAll_get hd 10 (by kernel_rfl)
        have h12 : val 12 = .int .i64 ((k : Int) + 1) := depsAll_get hd 12 (by kernel_rfl)
        refine does2_value (v := .pointer (some ⟨tb, to + (k + 1), none⟩)) hg rfl rfl ?_ rfl
        simp [execOp, Act.eval, go_sem, h10, h12, hlti, hidx, hneg]
      · refine ⟨rfl, fun _ _ => rfl, fun val V b1 b2 hg n1 n2 a1 v0 hd => ?_⟩
        have h13 : val 13 = .pointer (some ⟨tb, to + (k + 1), none⟩) := depsAll_get hd 13 (by kernel_rfl)
        obtain rfl : V = W.drew := hg.1 (n1 (by kernel_rfl))
        refine does2_value (v := .int .i64 XB) hg rfl rfl ?_ rfl
        simp [execOp, Act.eval, go_sem, h13, (show W.drew.cell? _ = _ from xb)]
      · refine ⟨rfl, fun _ _ => rfl, fun val V b1 b2 hg n1 n2 a1 v0 hd => ?_⟩
        have h2 : val 2 = .int .i64 (p1 : Int) := depsAll_get hd 2 (by kernel_rfl)
        have h4 : val 4 = .int .i64 (q1 : Int) := depsAll_get hd 4 (by kernel_rfl)
        have h5 : val 5 = .string s := depsAll_get hd 5 (by kernel_rfl)
        have h9 : val 9 = .int .i64 XA := depsAll_get hd 9 (by kernel_rfl)
        have h14 : val 14 = .int .i64 XB := depsAll_get hd 14 (by kernel_rfl)
        refine does2_value (v := .agg #[.int .i64 (p1 : Int), .int .i64 (q1 : Int), .int .i64 1, .string s, .int .i64 XA, .int .i64 XB, .bool false, .bool false]) hg rfl rfl ?_ rfl
        simp [execOp, Act.eval, go_sem, h2, h4, h5, h9, h14]
      · refine ⟨rfl, fun _ _ => rfl, fun val V b1 b2 hg n1 n2 a1 v0 hd => ?_⟩
        have h15 : val 15 = .agg #[.int .i64 (p1 : Int), .int .i64 (q1 : Int), .int .i64 1, .string s, .int .i64 XA, .int .i64 XB, .bool false, .bool false] := depsAll_get hd 15 (by kernel_rfl)
        obtain rfl : V = W.drew := hg.1 (n1 (by kernel_rfl))
        refine does2_grown (v := .slice (some ⟨W.heap.size, 0, none⟩) 1 1) (w' := W.drew.alloc (.cells #[.int .i64 (p1 : Int), .int .i64 (q1 : Int), .int .i64 1, .string s, .int .i64 XA, .int .i64 XB, .bool false, .bool false] 40)) ?_ rfl ⟨fun c => (by simp at c), fun _ _ => rfl⟩ ?_
        · simp [execOp, Act.eval, go_sem, h15]
        · intro j y hj hne hnd hr
          match j, hj, hne, hnd, hr with
          | 0, _, _, _, hr => exact hr
          | 1, _, _, _, hr => exact hr
          | 2, _, _, _, hr => exact hr
          | 3, _, _, _, hr => exact hr
          | 4, _, _, _, hr => exact hr
          | 5, _, _, _, hr => exact hr
          | 6, _, _, _, hr => exact hr
          | 7, _, _, _, hr => exact hr
          | 8, _, _, _, hr => exact hr
          | 9, _, _, _, hr => exact hr
          | 10, _, _, _, hr => exact hr
          | 11, _, _, _, hr => exact hr
          | 12, _, _, _, hr => exact hr
          | 13, _, _, _, hr => exact hr
          | 14, _, _, _, hr => exact hr
          | 15, _, _, _, hr => exact hr
          | 16, _, hne, _, _ => exact absurd rfl hne
          | 17, _, _, hnd, _ => exact absurd hnd (by decide +kernel)
          | 18, _, _, hnd, _ => exact absurd hnd (by decide +kernel)
          | j + 19, hj, _, _, _ => exact absurd hj (by simp)
      · refine ⟨rfl, fun _ _ => rfl, fun val V b1 b2 hg n1 n2 a1 v0 hd => ?_⟩
        have h0 : val 0 = u7 := depsAll_get hd 0 (by kernel_rfl)
        have h16 : val 16 = .slice (some ⟨W.heap.size, 0, none⟩) 1 1 := depsAll_get hd 16 (by kernel_rfl)
        obtain rfl : b1 = true := a1 (by kernel_rfl)
        obtain rfl : b2 = false := n2 (by kernel_rfl)
        obtain rfl : V = W.drew.alloc (.cells #[.int .i64 (p1 : Int), .int .i64 (q1 : Int), .int .i64 1, .string s, .int .i64 XA, .int .i64 XB, .bool false, .bool false] 40) := hg.2 rfl rfl
        intro K hK
        have OA : (W.drew.alloc (.cells #[.int .i64 (p1 : Int), .int .i64 (q1 : Int), .int .i64 1, .string s, .int .i64 XA, .int .i64 XB, .bool false, .bool false] 40)).ownsRow w1.heap.size 40 8 u7 D.length (whysC D) := own_same O5.out (fun g hg => by have := (own_block O5.out hg).2.1; rw [alloc_at, if_neg (show ¬ g = W.drew.heap.size from by show ¬ g = W.heap.size; omega)]; rfl)
        have BA : Below w1.heap.size W (W.drew.alloc (.cells #[.int .i64 (p1 : Int), .int .i64 (q1 : Int), .int .i64 1, .string s, .int .i64 XA, .int .i64 XB, .bool false, .bool false] 40)) := ⟨rfl, rfl, rfl, (by rw [alloc_size]; exact Nat.le_succ _), fun g hg => by have := B5.out.size; rw [alloc_at, if_neg (show ¬ g = W.drew.heap.size from by show ¬ g = W.heap.size; omega)]; rfl⟩
        refine wp_appendW w1.heap.size _ _ _ rfl (u7) D ((p1 : Int), (q1 : Int), 1, s, XA, XB, false) (show val 0 = _ from h0) W.heap.size (show val 16 = _ from h16) (heap_alloc_new W.drew _) OA (by rw [alloc_size]; have := B5.out.size; exact Nat.le_succ_of_le this) (by omega) (fun v' V' ho hb hbs => ?_)
        refine hK v' V' ⟨ho, BA.trans hb, fun k hk hn => (hbs k (by rw [alloc_size]; exact Nat.lt_succ_of_lt hk) hn).trans (by rw [alloc_at, if_neg (show ¬ k = W.drew.heap.size from by show ¬ k = W.heap.size; omega)]; rfl)⟩ ⟨fun c => (by simp at c), fun _ c => (by simp at c)⟩ ?_
        intro j y hj hne hnd hr
        match j, hj, hne, hnd, hr with
        | 0, _, _, _, hr => exact hr
        | 1, _, _, _, hr => exact hr
        | 2, _, _, _, hr => exact hr
        | 3, _, _, _, hr => exact hr
        | 4, _, _, _, hr => exact hr
        | 5, _, _, _, hr => exact hr
        | 6, _, _, _, hr => exact hr
        | 7, _, _, _, hr => exact hr
        | 8, _, _, _, hr => exact hr
        | 9, _, _, _, hr => exact hr
        | 10, _, _, _, hr => exact hr
        | 11, _, _, _, hr => exact hr
        | 12, _, _, _, hr => exact hr
        | 13, _, _, _, hr => exact hr
        | 14, _, _, _, hr => exact hr
        | 15, _, _, _, hr => exact hr
        | 16, _, _, _, hr => exact hr
        | 17, _, hne, _, _ => exact absurd rfl hne
        | 18, _, _, hnd, _ => exact absurd hnd (by decide +kernel)
        | j + 19, hj, _, _, _ => exact absurd hj (by simp)
      · refine ⟨rfl, fun _ _ => rfl, fun val V b1 b2 hg n1 n2 a1 v0 hd => ?_⟩
        have h17 := depsAll_get hd 17 (by kernel_rfl)
        exact does2_value (v := val 17) hg rfl rfl rfl h17
      intro val w6 _ hR
      obtain ⟨h18, bw6, _⟩ := hR 18 (by decide)
      have O6 := hid h18
      have B6 := hid (B5.out.trans bw6)
      clear hR h18 bw6
      go_wp2_with fail
      go_roundg (TS.length - 1 - (k + 1))
      case measure => omega
      case rel => exact ⟨k + 1, by omega, by omega, by go_num, B6.out, (show Aside _ from by rw [DNE.out]; exact O6.out)⟩
    · have hke : k = TS.length - 1 := by omega
      have hlti : ¬ (k : Int) + 1 < TS.length := by omega
      have OS : Hid (wr.ownsRow w1.heap.size 40 8 u7 (dd2 F s TS RX 0).length (whysC (dd2 F s TS RX 0))) := by
        have e : dd2 F s TS RX 0 = dd1 F s TS k := by rw [hke]; simp [dd2]
        rw [e]
        exact OR.out
      have BS := hid BR.out
      clear hke OR BR
      go_wp2_with (go_at_call 38; refine (RD.out _ (B1.out.trans (BS.out.mono B1.out.size))).mono ?_; rintro e w8 ⟨v8, R, rfl, o8, r8, b8⟩; obtain ⟨ra, rc, hrv⟩ := own_slice o8; subst hrv; have RR8 := hid (own_base o8 BS.out.size); have R8 := hid r8; have B8 := hid (BS.out.trans (b8.mono BS.out.size)); have O8 := hid (own_same OS.out (fun g hg => b8.block g (own_block OS.out hg).2.1)); clear o8 r8 b8)
      have HLEN := hid R8.out.len
      have hRn : R.length ≤ 10000 := by rw [HLEN.out]; exact hrl
      have hRi : (R.length : Int) ≤ 10000 := by omega
      have LC : Hid (∀ q, q < R.length → ∃ la lc, R.getD q default = ((RX.getD q default).1, (RX.getD q default).2.1, la, (RX.getD q default).2.2.length, lc) ∧ ∀ W, Below w1.heap.size w1 W → ∀ j, j < (RX.getD q default).2.2.length → ∃ lb lo, la = some ⟨lb, lo, none⟩ ∧ W.cell? ⟨lb, lo + j, none⟩ = some (.int .i64 ((RX.getD q default).2.2.getD j default))) := fun q hq => by
        obtain ⟨la, lc, e1, e2, _⟩ := R8.out.at' q hq
        refine ⟨la, lc, e1, fun W hb j hj => ?_⟩
        obtain ⟨ao, c', hv, _, hc⟩ := e2
        cases hv
        obtain ⟨b, off, e, _, h3⟩ := hc (by omega)
        exact ⟨b, off, e, ((B1.out.trans (hb.mono B1.out.size)).cell (p := ⟨b, off + j, none⟩) (World.block_lt_of_cell? _ _ (h3 j hj))).trans (h3 j hj)⟩
      clear R8 OS BS
      go_loopg [7, 14, 15, 16, 17, 82] R.length (fun gg out _ _ _ _ i wr => ∃ q : Nat, q ≤ R.length ∧ R.length - q ≤ gg ∧ i = .int .i64 q ∧ Aside (Below w1.heap.size w1 wr) ∧ Aside (wr.ownsRow w1.heap.size 40 8 out (dd2 F s TS RX q).length (whysC (dd2 F s TS RX q))) ∧ Aside (wr.ownsRow w1.heap.size 87 3 (.slice ra R.length rc) R.length (rdC R)))
      case atStart => exact ⟨0, Nat.zero_le _, by omega, rfl, B8.out, O8.out, RR8.out⟩
      case round =>
        obtain ⟨q, hq, hgq, rfl, BR, OR, RR⟩ := hrel
        have hdq := dd2_len F s TS RX q
        by_cases hq1 : q < R.length
        · obtain ⟨DQ, hDQ⟩ : ∃ DQ, dd2 F s TS RX q = DQ := ⟨_, rfl⟩
          rw [hDQ] at OR hdq
          have hq1i : (q : Int) < R.length := by omega
          have hqx : q < RX.length := by rw [← HLEN.out]; exact hq1
          obtain ⟨la, lc, hRq, hlc⟩ := LC.out q hq1
          have LQ := hid hlc
          obtain ⟨g8, c8, hv8⟩ := own_some RR.out (by omega)
          cases hv8
          have ce : ∀ i u, i < 3 → (rdVs (R.getD q default))[i]? = some u → wr.cell? ⟨g8, q * 3 + i, none⟩ = some u := fun i u hi hu => (RR.out.cellAt (q * 3 + i) (by omega)).trans ((rdC_at R q i hq1 hi).trans hu)
          rw [hRq] at ce
          have y0 := ce 0 _ (by omega) rfl
          have y1 := ce 1 _ (by omega) rfl
          have y2 := ce 2 _ (by omega) rfl
          rw [Nat.add_zero] at y0
          have hxle := LEN.out (RX.getD q default) (by simp [List.getD, List.getElem?_eq_getElem hqx])
          have DN := hid (D2N.out q hqx)
          clear ce hlc hRq
          generalize RX.getD q default = r at *
          obtain ⟨ri, rj, xs⟩ := r
          simp only at y0 y1 y2 LQ hxle
          have BA : ∀ o, Hid (Below w1.heap.size w1 (wr.alloc o)) := fun o => BR.out.trans ((below_box wr o).mono BR.out.size)
          have OA : ∀ o, Hid ((wr.alloc o).ownsRow w1.heap.size 40 8 u7 DQ.length (whysC DQ)) := fun o => own_same OR.out (fun g hg => (below_box wr o).block g (own_block OR.out hg).2.1)
          have RA : ∀ o, Hid ((wr.alloc o).ownsRow w1.heap.size 87 3 (.slice (some ⟨g8, 0, none⟩) R.length rc) R.length (rdC R)) := fun o => own_same RR.out (fun g hg => (below_box wr o).block g (own_block RR.out hg).2.1)
          rw [hDQ] at DN
          clear hDQ
          by_cases hx0 : xs.length = 0
          · have WE : Hid (dd2 F s TS RX (q + 1) = DQ) := by show _ = _; rw [DN.out]; simp [wrE, hx0]
            rw [hx0] at y2
            clear hx0 LQ DN hxle
            go_wp2_with fail
            go_roundg (R.length - (q + 1))
            case measure => omega
            case rel => exact ⟨q + 1, by omega, by omega, by go_num, (BA _).out, (show Aside _ from by rw [WE.out]; exact (OA _).out), (RA _).out⟩
          · obtain ⟨m, hm⟩ : ∃ m, xs.length = m + 1 := ⟨xs.length - 1, by omega⟩
            have LX : Hid (∀ W, Below w1.heap.size w1 W → ∃ lb lo, la = some ⟨lb, lo, none⟩ ∧ W.cell? ⟨lb, lo + m, none⟩ = some (.int .i64 (xs.getD m default))) := fun W hb => LQ.out W hb m (by omega)
            have WE : Hid (dd2 F s TS RX (q + 1) = DQ ++ [((((F (xs.getD m default)).getD noSrc).1 : Int), (ri : Int), 2, s, xs.getD m default, 0, false)]) := by
              show _ = _
              rw [DN.out]
              simp only [wrE]
              rw [if_neg hx0, hm]
              rfl
            have WRA : Hid (∀ W, Below w1.heap.size w1 W → Calls Try.prog 47 #[.slice a1 l.length c1, .string s, .int .i64 (xs.getD m default)] W fun e w' => e = .returned (.tuple #[.agg #[.int .i64 ((F (xs.getD m default)).getD noSrc).1, .int .i64 ((F (xs.getD m default)).getD noSrc).2.1], .bool (F (xs.getD m default)).isSome]) ∧ Below W.heap.size W w') := fun W hb => WR.out W _ (B1.out.trans (hb.mono B1.out.size))
            have hml : m + 1 ≤ 100000 := by omega
            rw [hm] at y2
            clear LQ DN hx0
            generalize xs.getD m default = XA at *
            generalize (F XA).isSome = sa at *
            generalize (F XA).getD noSrc = ya at *
            obtain ⟨p1, p2, p3, p4⟩ := ya
            simp only at WRA WE
            clear hm hxle
            obtain ⟨lb, lo, rfl, _⟩ := LX.out wr BR.out
            have xl : ∀ o, (wr.alloc o).cell? ⟨lb, lo + m, none⟩ = some (.int .i64 XA) := fun o => by
              obtain ⟨lb', lo', e, hh⟩ := LX.out (wr.alloc o) (BA o).out
              cases e
              exact hh
            go_upto_region 17 with (go_at_call 47; refine (WRA.out _ (BA _).out).mono ?_; rintro e w2 ⟨rfl, b2⟩; have B2 := hid b2; clear b2)
            have P1 := hid ((B2.out.block wr.heap.size (by rw [alloc_size]; omega)).trans (heap_alloc_new wr (.cells #[.int .i64 ri, .int .i64 rj, .slice (some ⟨lb, lo, none⟩) (m + 1) lc] 87)))
            have BB2 := hid ((BA (.cells #[.int .i64 ri, .int .i64 rj, .slice (some ⟨lb, lo, none⟩) (m + 1) lc] 87)).out.trans (B2.out.mono (BA _).out.size))
            have O2 := hid (own_same (OA (.cells #[.int .i64 ri, .int .i64 rj, .slice (some ⟨lb, lo, none⟩) (m + 1) lc] 87)).out (fun g hg => B2.out.block g (own_block (OA _).out hg).2.1))
            have RR2 := hid (own_same (RA (.cells #[.int .i64 ri, .int .i64 rj, .slice (some ⟨lb, lo, none⟩) (m + 1) lc] 87)).out (fun g hg => B2.out.block g (own_block (RA _).out hg).2.1))
            have P5 := hid (((below_box w2 (.cells #[.int .i64 p1, .int .i64 p2] 54)).block wr.heap.size (blt P1.out)).trans P1.out)
            have B5 : Hid (Below w1.heap.size w1 (w2.alloc (.cells #[.int .i64 p1, .int .i64 p2] 54))) := BB2.out.trans ((below_box w2 _).mono BB2.out.size)
            have O5 := hid (own_same O2.out (fun g hg => (below_box w2 (.cells #[.int .i64 p1, .int .i64 p2] 54)).block g (own_block O2.out hg).2.1))
            have RR5 := hid (own_same RR2.out (fun g hg => (below_box w2 (.cells #[.int .i64 p1, .int .i64 p2] 54)).block g (own_block RR2.out hg).2.1))
            have Q5 := hid (heap_alloc_new w2 (.cells #[.int .i64 p1, .int .i64 p2] 54))
            clear xl y0 y1 y2 BA OA RA P1 B2 BB2 O2 RR2 BR OR RR WRA
            generalize w2.alloc (.cells #[.int .i64 p1, .int .i64 p2] 54) = W at *
            generalize wr.heap.size = pr at *
            generalize w2.heap.size = pw at *
            obtain ⟨lb', lo', e, xl⟩ := LX.out W B5.out
            cases e
            have xp : W.cell? ⟨pw, 0, none⟩ = some (.int .i64 p1) := Lib.cell_of_heap Q5.out 0
            have xr : W.cell? ⟨pr, 0, none⟩ = some (.int .i64 ri) := Lib.cell_of_heap P5.out 0
            have xs2 : W.cell? ⟨pr, 2, none⟩ = some (.slice (some ⟨lb, lo, none⟩) (m + 1) lc) := Lib.cell_of_heap P5.out 2
            have hs9 : IntKind.i64.wrap (((m + 1 : Nat) : Int) - 1) = (m : Int) := by rw [IntKind.wrap_i64]; omega
            have hs9b : IntKind.i64.wrap ((m : Int) + 1 - 1) = (m : Int) := by rw [IntKind.wrap_i64]; omega
            have hs9c : IntKind.i64.wrap (m : Int) = (m : Int) := by rw [IntKind.wrap_i64]; omega
            have hm1 : (m : Int) < ((m + 1 : Nat) : Int) := by omega
            have hm2 : (m : Int) < (m : Int) + 1 := by omega
            generalize hDD : DQ = D at *
            clear hDD
            refine wp_region_two Try.mixedOrders (by kernel_rfl) 8 13 14 (by decide) (by decide) (fun b1 b2 V => (b1 = false → V = W.drew) ∧ (b1 = true → b2 = false → V = W.drew.alloc (.cells #[.int .i64 (p1 : Int), .int .i64 (ri : Int), .int .i64 2, .string s, .int .i64 XA, .int .i64 0, .bool false, .bool false] 40))) ⟨fun _ => rfl, fun c => (by cases c)⟩ (fun val => { tmps := #[_, _, _, _, _, _, _, val 15, _, _, _, _, _, _, _, _, _, _, _, _, _, _, _, _, _, _, _, _, _, _, _, _, _, _, _, _, _, _, _, _, _, _, _, _, _, _, _, _, _, _, _, _, _, _, _, _, _, _, _, _, _, _, _, _, _, _, _, _, _, _, _, _, _, _, _, _, _, _, _, _, _, _, _, _, _, _, _, _, _, _, _, _, _, _, _, _, _, _, _, _, _, _, _, val 0, val 1, val 2, val 3, val 4, val 5, val 6, val 7, val 8, val 9, val 10, val 11, val 12, val 13, val 14, _, _, _, _, _, _, _, _, _, _, _, _, _, _, _, _, _, _, _, _, _, _, _, _, _, _, _, _, _, _, _, _, _, _, _, _, _, _, _, _, _, _, _, _, _, _, _, _, _, _, _, _, _, _], defers := [] }) (fun i y V => match i with | 0 => y = u7 | 1 => y = .pointer (some ⟨pw, 0, none⟩) | 2 => y = .int .i64 (p1 : Int) | 3 => y = .pointer (some ⟨pr, 0, none⟩) | 4 => y = .int .i64 (ri : Int) | 5 => y = .string s | 6 => y = .pointer (some ⟨pr, 2, none⟩) | 7 => y = .slice (some ⟨lb, lo, none⟩) (m + 1) lc | 8 => y = .int .i64 ((m + 1 : Nat) : Int) | 9 => y = .int .i64 (m : Int) | 10 => y = .pointer (some ⟨lb, lo + m, none⟩) | 11 => y = .int .i64 XA | 12 => y = .agg #[.int .i64 (p1 : Int), .int .i64 (ri : Int), .int .i64 2, .string s, .int .i64 XA, .int .i64 0, .bool false, .bool false] | 13 => y = .slice (some ⟨W.heap.size, 0, none⟩) 1 1 | 14 => V.ownsRow w1.heap.size 40 8 y (D ++ [((p1 : Int), (ri : Int), 2, s, XA, 0, false)]).length (whysC (D ++ [((p1 : Int), (ri : Int), 2, s, XA, 0, false)])) ∧ Below w1.heap.size W V ∧ (∀ k, k < W.heap.size → Value.ownBlock u7 ≠ some k → V.heap[k]? = W.heap[k]?) | 15 => V.ownsRow w1.heap.size 40 8 y (D ++ [((p1 : Int), (ri : Int), 2, s, XA, 0, false)]).length (whysC (D ++ [((p1 : Int), (ri : Int), 2, s, XA, 0, false)])) ∧ Below w1.heap.size W V ∧ (∀ k, k < W.heap.size → Value.ownBlock u7 ≠ some k → V.heap[k]? = W.heap[k]?) | _ => True) (fun i => match i with | 0 => u103 | 1 => u104 | 2 => u105 | 3 => u106 | 4 => u107 | 5 => u108 | 6 => u109 | 7 => u110 | 8 => u111 | 9 => u112 | 10 => u113 | 11 => u114 | 12 => u115 | 13 => u116 | 14 => u117 | 15 => u7 | _ => undef) rfl _ rfl ⟨?_, ?_, ?_, ?_, ?_, ?_, ?_, ?_, ?_, ?_, ?_, ?_, ?_, ?_, ?_, ?_, trivial⟩ ?_
            · refine ⟨rfl, fun _ _ => rfl, fun val V b1 b2 hg n1 n2 a1 v0 hd => ?_⟩
              have hs7 : val 15 = u7 := v0 15 (by kernel_rfl)
              refine does2_value (v := u7) hg rfl rfl ?_ rfl
              simp [execOp, Act.eval, hs7, go_sem]
            · refine ⟨rfl, fun _ _ => rfl, fun val V b1 b2 hg n1 n2 a1 v0 hd => ?_⟩
              refine does2_value (v := .pointer (some ⟨pw, 0, none⟩)) hg rfl rfl ?_ rfl
              simp [execOp, Act.eval, go_sem]
            · refine ⟨rfl, fun _ _ => rfl, fun val V b1 b2 hg n1 n2 a1 v0 hd => ?_⟩
              have h1 : val 1 = .pointer (some ⟨pw, 0, none⟩) := depsAll_get hd 1 (by kernel_rfl)
              obtain rfl : V = W.drew := hg.1 (n1 (by kernel_rfl))
              refine does2_value (v := .int .i64 (p1 : Int)) hg rfl rfl ?_ rfl
              simp [execOp, Act.eval, go_sem, h1, (show W.drew.cell? _ = _ from xp)]
            · refine ⟨rfl, fun _ _ => rfl, fun val V b1 b2 hg n1 n2 a1 v0 hd => ?_⟩
              refine does2_value (v := .pointer (some ⟨pr, 0, none⟩)) hg rfl rfl ?_ rfl
              simp [execOp, Act.eval, go_sem]
            · refine ⟨rfl, fun _ _ => rfl, fun val V b1 b2 hg n1 n2 a1 v0 hd => ?_⟩
              have h3 : val 3 = .pointer (some ⟨pr, 0, none⟩) := depsAll_get hd 3 (by kernel_rfl)
              obtain rfl : V = W.drew := hg.1 (n1 (by kernel_rfl))
              refine does2_value (v := .int .i64 (ri : Int)) hg rfl rfl ?_ rfl
              simp [execOp, Act.eval, go_sem, h3, (show W.drew.cell? _ = _ from xr)]
            · refine ⟨rfl, fun _ _ => rfl, fun val V b1 b2 hg n1 n2 a1 v0 hd => ?_⟩
              refine does2_value (v := .string s) hg rfl rfl ?_ rfl
              simp [execOp, Act.eval, go_sem]
            · refine ⟨rfl, fun _ _ => rfl, fun val V b1 b2 hg n1 n2 a1 v0 hd => ?_⟩
              refine does2_value (v := .pointer (some ⟨pr, 2, none⟩)) hg rfl rfl ?_ rfl
              simp [execOp, Act.eval, go_sem]
            · refine ⟨rfl, fun _ _ => rfl, fun val V b1 b2 hg n1 n2 a1 v0 hd => ?_⟩
              have h6 : val 6 = .pointer (some ⟨pr, 2, none⟩) := depsAll_get hd 6 (by kernel_rfl)
              obtain rfl : V = W.drew := hg.1 (n1 (by kernel_rfl))
              refine does2_value (v := .slice (some ⟨lb, lo, none⟩) (m + 1) lc) hg rfl rfl ?_ rfl
              simp [execOp, Act.eval, go_sem, h6, (show W.drew.cell? _ = _ from xs2)]
            · refine ⟨rfl, fun _ _ => rfl, fun val V b1 b2 hg n1 n2 a1 v0 hd => ?_⟩
              refine does2_value (v := .int .i64 ((m + 1 : Nat) : Int)) hg rfl rfl ?_ rfl
              simp [execOp, Act.eval, go_sem]
            · refine ⟨rfl, fun _ _ => rfl, fun val V b1 b2 hg n1 n2 a1 v0 hd => ?_⟩
              have h8 : val 8 = .int .i64 ((m + 1 : Nat) : Int) := depsAll_get hd 8 (by kernel_rfl)
              refine does2_value (v := .int .i64 (m : Int)) hg rfl rfl ?_ rfl
              simp [execOp, Act.eval, go_sem, h8, hs9, hs9b, hs9c]
            · refine ⟨rfl, fun _ _ => rfl, fun val V b1 b2 hg n1 n2 a1 v0 hd => ?_⟩
              have h7 : val 7 = .slice (some ⟨lb, lo, none⟩) (m + 1) lc := depsAll_get hd 7 (by kernel_rfl)
              have h9 : val 9 = .int .i64 (m : Int) := depsAll_get hd 9 (by kernel_rfl)
              refine does2_value (v := .pointer (some ⟨lb, lo + m, none⟩)) hg rfl rfl ?_ rfl
              simp [execOp, Act.eval, go_sem, h7, h9, hm1, hm2]
            · refine ⟨rfl, fun _ _ => rfl, fun val V b1 b2 hg n1 n2 a1 v0 hd => ?_⟩
              have h10 : val 10 = .pointer (some ⟨lb, lo + m, none⟩) := depsAll_get hd 10 (by kernel_rfl)
              obtain rfl : V = W.drew := hg.1 (n1 (by kernel_rfl))
              refine does2_value (v := .int .i64 XA) hg rfl rfl ?_ rfl
              simp [execOp, Act.eval, go_sem, h10, (show W.drew.cell? _ = _ from xl)]
            · refine ⟨rfl, fun _ _ => rfl, fun val V b1 b2 hg n1 n2 a1 v0 hd => ?_⟩
              have h2 : val 2 = .int .i64 (p1 : Int) := depsAll_get hd 2 (by kernel_rfl)
              have h4 : val 4 = .int .i64 (ri : Int) := depsAll_get hd 4 (by kernel_rfl)
              have h5 : val 5 = .string s := depsAll_get hd 5 (by kernel_rfl)
              have h11 : val 11 = .int .i64 XA := depsAll_get hd 11 (by kernel_rfl)
              refine does2_value (v := .agg #[.int .i64 (p1 : Int), .int .i64 (ri : Int), .int .i64 2, .string s, .int .i64 XA, .int .i64 0, .bool false, .bool false]) hg rfl rfl ?_ rfl
              simp [execOp, Act.eval, go_sem, h2, h4, h5, h11]
            · refine ⟨rfl, fun _ _ => rfl, fun val V b1 b2 hg n1 n2 a1 v0 hd => ?_⟩
              have h12 : val 12 = .agg #[.int .i64 (p1 : Int), .int .i64 (ri : Int), .int .i64 2, .string s, .int .i64 XA, .int .i64 0, .bool false, .bool false] := depsAll_get hd 12 (by kernel_rfl)
              obtain rfl : V = W.drew := hg.1 (n1 (by kernel_rfl))
              refine does2_grown (v := .slice (some ⟨W.heap.size, 0, none⟩) 1 1) (w' := W.drew.alloc (.cells #[.int .i64 (p1 : Int), .int .i64 (ri : Int), .int .i64 2, .string s, .int .i64 XA, .int .i64 0, .bool false, .bool false] 40)) ?_ rfl ⟨fun c => (by simp at c), fun _ _ => rfl⟩ ?_
              · simp [execOp, Act.eval, go_sem, h12]
              · intro j y hj hne hnd hr
                match j, hj, hne, hnd, hr with
                | 0, _, _, _, hr => exact hr
                | 1, _, _, _, hr => exact hr
                | 2, _, _, _, hr => exact hr
                | 3, _, _, _, hr => exact hr
                | 4, _, _, _, hr => exact hr
                | 5, _, _, _, hr => exact hr
                | 6, _, _, _, hr => exact hr
                | 7, _, _, _, hr => exact hr
                | 8, _, _, _, hr => exact hr
                | 9, _, _, _, hr => exact hr
                | 10, _, _, _, hr => exact hr
                | 11, _, _, _, hr => exact hr
                | 12, _, _, _, hr => exact hr
                | 13, _, hne, _, _ => exact absurd rfl hne
                | 14, _, _, hnd, _ => exact absurd hnd (by decide +kernel)
                | 15, _, _, hnd, _ => exact absurd hnd (by decide +kernel)
                | j + 16, hj, _, _, _ => exact absurd hj (by simp)
            · refine ⟨rfl, fun _ _ => rfl, fun val V b1 b2 hg n1 n2 a1 v0 hd => ?_⟩
              have h0 : val 0 = u7 := depsAll_get hd 0 (by kernel_rfl)
              have h13 : val 13 = .slice (some ⟨W.heap.size, 0, none⟩) 1 1 := depsAll_get hd 13 (by kernel_rfl)
              obtain rfl : b1 = true := a1 (by kernel_rfl)
              obtain rfl : b2 = false := n2 (by kernel_rfl)
              obtain rfl : V = W.drew.alloc (.cells #[.int .i64 (p1 : Int), .int .i64 (ri : Int), .int .i64 2, .string s, .int .i64 XA, .int .i64 0, .bool false, .bool false] 40) := hg.2 rfl rfl
              intro K hK
              have OA : (W.drew.alloc (.cells #[.int .i64 (p1 : Int), .int .i64 (ri : Int), .int .i64 2, .string s, .int .i64 XA, .int .i64 0, .bool false, .bool false] 40)).ownsRow w1.heap.size 40 8 u7 D.length (whysC D) := own_same O5.out (fun g hg => by have := (own_block O5.out hg).2.1; rw [alloc_at, if_neg (show ¬ g = W.drew.heap.size from by show ¬ g = W.heap.size; omega)]; rfl)
              have BA : Below w1.heap.size W (W.drew.alloc (.cells #[.int .i64 (p1 : Int), .int .i64 (ri : Int), .int .i64 2, .string s, .int .i64 XA, .int .i64 0, .bool false, .bool false] 40)) := ⟨rfl, rfl, rfl, (by rw [alloc_size]; exact Nat.le_succ _), fun g hg => by have := B5.out.size; rw [alloc_at, if_neg (show ¬ g = W.drew.heap.size from by show ¬ g = W.heap.size; omega)]; rfl⟩
              refine wp_appendW w1.heap.size _ _ _ rfl (u7) D ((p1 : Int), (ri : Int), 2, s, XA, 0, false) (show val 0 = _ from h0) W.heap.size (show val 13 = _ from h13) (heap_alloc_new W.drew _) OA (by rw [alloc_size]; have := B5.out.size; exact Nat.le_succ_of_le this) (by omega) (fun v' V' ho hb hbs => ?_)
              refine hK v' V' ⟨ho, BA.trans hb, fun k hk hn => (hbs k (by rw [alloc_size]; exact Nat.lt_succ_of_lt hk) hn).trans (by rw [alloc_at, if_neg (show ¬ k = W.drew.heap.size from by show ¬ k = W.heap.size; omega)]; rfl)⟩ ⟨fun c => (by simp at c), fun _ c => (by simp at c)⟩ ?_
              intro j y hj hne hnd hr
              match j, hj, hne, hnd, hr with
              | 0, _, _, _, hr => exact hr
              | 1, _, _, _, hr => exact hr
              | 2, _, _, _, hr => exact hr
              | 3, _, _, _, hr => exact hr
              | 4, _, _, _, hr => exact hr
              | 5, _, _, _, hr => exact hr
              | 6, _, _, _, hr => exact hr
              | 7, _, _, _, hr => exact hr
              | 8, _, _, _, hr => exact hr
              | 9, _, _, _, hr => exact hr
              | 10, _, _, _, hr => exact hr
              | 11, _, _, _, hr => exact hr
              | 12, _, _, _, hr => exact hr
              | 13, _, _, _, hr => exact hr
              | 14, _, hne, _, _ => exact absurd rfl hne
              | 15, _, _, hnd, _ => exact absurd hnd (by decide +kernel)
              | j + 16, hj, _, _, _ => exact absurd hj (by simp)
            · refine ⟨rfl, fun _ _ => rfl, fun val V b1 b2 hg n1 n2 a1 v0 hd => ?_⟩
              have h14 := depsAll_get hd 14 (by kernel_rfl)
              exact does2_value (v := val 14) hg rfl rfl rfl h14
            intro val w6 _ hR
            obtain ⟨h18, bw6, hbs6⟩ := hR 15 (by decide)
            have O6 := hid h18
            have B6 := hid (B5.out.trans bw6)
            have RR6 := hid (own_same RR5.out (fun g hg => hbs6 g (own_block RR5.out hg).2.1 (rows_apart O5.out RR5.out (by decide) hg)))
            clear hR h18 bw6 hbs6
            go_wp2_with fail
            go_roundg (R.length - (q + 1))
            case measure => omega
            case rel => exact ⟨q + 1, by omega, by omega, by go_num, B6.out, (show Aside _ from by rw [WE.out]; exact O6.out), RR6.out⟩
        · have hqe : q = R.length := by omega
          have hq1i : ¬ (q : Int) < R.length := by omega
          have OS : Hid (wr.ownsRow w1.heap.size 40 8 u7 (dd3 F s TS RX 0).length (whysC (dd3 F s TS RX 0))) := by
            have e : dd3 F s TS RX 0 = dd2 F s TS RX q := by rw [hqe, HLEN.out]; simp [dd3]
            rw [e]
            exact OR.out
          have BS := hid BR.out
          clear hqe OR BR RR LC HLEN O8 B8 RR8
          go_wp2_with (go_at_call 38; refine (RD.out _ (B1.out.trans (BS.out.mono B1.out.size))).mono ?_; rintro e w8 ⟨v8, R, rfl, o8, r8, b8⟩; obtain ⟨ra, rc, hrv⟩ := own_slice o8; subst hrv; have RR8 := hid (own_base o8 BS.out.size); have R8 := hid r8; have B8 := hid (BS.out.trans (b8.mono BS.out.size)); have O8 := hid (own_same OS.out (fun g hg => b8.block g (own_block OS.out hg).2.1)); clear o8 r8 b8)
          have HLEN := hid R8.out.len
          have hRn : R.length ≤ 10000 := by rw [HLEN.out]; exact hrl
          have hRi : (R.length : Int) ≤ 10000 := by omega
          have LC : Hid (∀ q, q < R.length → ∃ la lc, R.getD q default = ((RX.getD q default).1, (RX.getD q default).2.1, la, (RX.getD q default).2.2.length, lc) ∧ ∀ W, Below w1.heap.size w1 W → ∀ j, j < (RX.getD q default).2.2.length → ∃ lb lo, la = some ⟨lb, lo, none⟩ ∧ W.cell? ⟨lb, lo + j, none⟩ = some (.int .i64 ((RX.getD q default).2.2.getD j default))) := fun q hq => by
            obtain ⟨la, lc, e1, e2, _⟩ := R8.out.at' q hq
            refine ⟨la, lc, e1, fun W hb j hj => ?_⟩
            obtain ⟨ao, c', hv, _, hc⟩ := e2
            cases hv
            obtain ⟨b, off, e, _, h3⟩ := hc (by omega)
            exact ⟨b, off, e, ((B1.out.trans (hb.mono B1.out.size)).cell (p := ⟨b, off + j, none⟩) (World.block_lt_of_cell? _ _ (h3 j hj))).trans (h3 j hj)⟩
          clear R8 OS BS
          go_loopg [7, 19, 20, 21, 22, 23, 123] R.length (fun gg out _ _ _ _ _ i wr => ∃ q : Nat, q ≤ R.length ∧ R.length - q ≤ gg ∧ i = .int .i64 q ∧ Aside (Below w1.heap.size w1 wr) ∧ Aside (wr.ownsRow w1.heap.size 40 8 out (dd3 F s TS RX q).length (whysC (dd3 F s TS RX q))) ∧ Aside (wr.ownsRow w1.heap.size 87 3 (.slice ra R.length rc) R.length (rdC R)))
          case atStart => exact ⟨0, Nat.zero_le _, by omega, rfl, B8.out, O8.out, RR8.out⟩
          case round =>
            obtain ⟨q, hq, hgq, rfl, BR, OR, RR⟩ := hrel
            have hdq := dd3_len F s TS RX q
            by_cases hq1 : q < R.length
            · obtain ⟨DQ, hDQ⟩ : ∃ DQ, dd3 F s TS RX q = DQ := ⟨_, rfl⟩
              rw [hDQ] at OR hdq
              have hq1i : (q : Int) < R.length := by omega
              have hqx : q < RX.length := by rw [← HLEN.out]; exact hq1
              obtain ⟨la, lc, hRq, hlc⟩ := LC.out q hq1
              have LQ := hid hlc
              obtain ⟨g8, c8, hv8⟩ := own_some RR.out (by omega)
              cases hv8
              have ce : ∀ i u, i < 3 → (rdVs (R.getD q default))[i]? = some u → wr.cell? ⟨g8, q * 3 + i, none⟩ = some u := fun i u hi hu => (RR.out.cellAt (q * 3 + i) (by omega)).trans ((rdC_at R q i hq1 hi).trans hu)
              rw [hRq] at ce
              have y0 := ce 0 _ (by omega) rfl
              have y1 := ce 1 _ (by omega) rfl
              have y2 := ce 2 _ (by omega) rfl
              rw [Nat.add_zero] at y0
              have hxle := LEN.out (RX.getD q default) (by simp [List.getD, List.getElem?_eq_getElem hqx])
              have DN := hid (D3N.out q hqx)
              clear ce hlc hRq
              generalize RX.getD q default = r at *
              obtain ⟨ri, rj, xs⟩ := r
              simp only at y0 y1 y2 LQ hxle
              have BA : ∀ o, Hid (Below w1.heap.size w1 (wr.alloc o)) := fun o => BR.out.trans ((below_box wr o).mono BR.out.size)
              have OA : ∀ o, Hid ((wr.alloc o).ownsRow w1.heap.size 40 8 u7 DQ.length (whysC DQ)) := fun o => own_same OR.out (fun g hg => (below_box wr o).block g (own_block OR.out hg).2.1)
              have RA : ∀ o, Hid ((wr.alloc o).ownsRow w1.heap.size 87 3 (.slice (some ⟨g8, 0, none⟩) R.length rc) R.length (rdC R)) := fun o => own_same RR.out (fun g hg => (below_box wr o).block g (own_block RR.out hg).2.1)
              rw [hDQ] at DN
              clear hDQ
              by_cases hxl : xs.length < TS.length
              · have hxli : (xs.length : Int) < TS.length := by omega
                have hxge : ¬ (TS.length : Int) ≤ xs.length := by omega
                have TCX : Hid (∀ W, Below w1.heap.size w1 W → ∃ tb to, ta = some ⟨tb, to, none⟩ ∧ W.cell? ⟨tb, to + xs.length, none⟩ = some (.int .i64 (TS.getD xs.length default))) := fun W hb => TC.out W hb xs.length hxl
                obtain ⟨V, hV⟩ : ∃ V, (if xs.length = 0 then (0 : Int) else xs.getD (xs.length - 1) default) = V := ⟨_, rfl⟩
                obtain ⟨Z, hZ⟩ : ∃ Z, decide (xs.length = 0) = Z := ⟨_, rfl⟩
                have WE : Hid (dd3 F s TS RX (q + 1) = DQ ++ [((ri : Int), (((F (TS.getD xs.length default)).getD noSrc).1 : Int), 4, s, V, TS.getD xs.length default, Z)]) := by
                  show _ = _
                  rw [DN.out, ← hV, ← hZ]
                  simp only [rwE]
                  rw [if_pos hxl]
                have HV0 : Hid (xs.length = 0 → V = 0) := fun e => by rw [← hV, if_pos e]
                have LV : Hid (∀ m, xs.length = m + 1 → ∀ W, Below w1.heap.size w1 W → ∃ lb lo, la = some ⟨lb, lo, none⟩ ∧ W.cell? ⟨lb, lo + m, none⟩ = some (.int .i64 V)) := fun m hm W hb => by
                  rw [← hV, if_neg (by omega), hm]
                  exact LQ.out W hb m (by omega)
                have hz : ((xs.length : Int) == 0) = Z := by rw [← hZ, Bool.eq_iff_iff]; simp
                have WRA : Hid (∀ W, Below w1.heap.size w1 W → Calls Try.prog 47 #[.slice a1 l.length c1, .string s, .int .i64 (TS.getD xs.length default)] W fun e w' => e = .returned (.tuple #[.agg #[.int .i64 ((F (TS.getD xs.length default)).getD noSrc).1, .int .i64 ((F (TS.getD xs.length default)).getD noSrc).2.1], .bool (F (TS.getD xs.length default)).isSome]) ∧ Below W.heap.size W w') := fun W hb => WR.out W _ (B1.out.trans (hb.mono B1.out.size))
                clear LQ DN hV hZ hxl
                generalize TS.getD xs.length default = XA at *
                generalize xs.length = xn at *
                generalize (F XA).isSome = sa at *
                generalize (F XA).getD noSrc = ya at *
                obtain ⟨p1, p2, p3, p4⟩ := ya
                simp only at WRA WE
                obtain ⟨tb, to, rfl, _⟩ := TCX.out wr BR.out
                have xt : ∀ o, (wr.alloc o).cell? ⟨tb, to + xn, none⟩ = some (.int .i64 XA) := fun o => by
                  obtain ⟨tb', to', e, hh⟩ := TCX.out (wr.alloc o) (BA o).out
                  cases e
                  exact hh
                go_upto_region 25 with (go_at_call 47; refine (WRA.out _ (BA _).out).mono ?_; rintro e w2 ⟨rfl, b2⟩; have B2 := hid b2; clear b2)
                have P1 := hid ((B2.out.block wr.heap.size (by rw [alloc_size]; omega)).trans (heap_alloc_new wr (.cells #[.int .i64 ri, .int .i64 rj, .slice la xn lc] 87)))
                have BB2 := hid ((BA (.cells #[.int .i64 ri, .int .i64 rj, .slice la xn lc] 87)).out.trans (B2.out.mono (BA _).out.size))
                have O2 := hid (own_same (OA (.cells #[.int .i64 ri, .int .i64 rj, .slice la xn lc] 87)).out (fun g hg => B2.out.block g (own_block (OA _).out hg).2.1))
                have RR2 := hid (own_same (RA (.cells #[.int .i64 ri, .int .i64 rj, .slice la xn lc] 87)).out (fun g hg => B2.out.block g (own_block (RA _).out hg).2.1))
                have P5 := hid (((below_box w2 (.cells #[.int .i64 p1, .int .i64 p2] 54)).block wr.heap.size (blt P1.out)).trans P1.out)
                have B5 : Hid (Below w1.heap.size w1 (w2.alloc (.cells #[.int .i64 p1, .int .i64 p2] 54))) := BB2.out.trans ((below_box w2 _).mono BB2.out.size)
                have O5 := hid (own_same O2.out (fun g hg => (below_box w2 (.cells #[.int .i64 p1, .int .i64 p2] 54)).block g (own_block O2.out hg).2.1))
                have RR5 := hid (own_same RR2.out (fun g hg => (below_box w2 (.cells #[.int .i64 p1, .int .i64 p2] 54)).block g (own_block RR2.out hg).2.1))
                have Q5 := hid (heap_alloc_new w2 (.cells #[.int .i64 p1, .int .i64 p2] 54))
                clear xt y0 y1 y2 BA OA RA P1 B2 BB2 O2 RR2 BR OR RR WRA
                generalize w2.alloc (.cells #[.int .i64 p1, .int .i64 p2] 54) = W at *
                generalize wr.heap.size = pr at *
                generalize w2.heap.size = pw at *
                obtain ⟨tb', to', e, xt⟩ := TCX.out W B5.out
                cases e
                have xp : W.cell? ⟨pw, 0, none⟩ = some (.int .i64 p1) := Lib.cell_of_heap Q5.out 0
                have xr : W.cell? ⟨pr, 0, none⟩ = some (.int .i64 ri) := Lib.cell_of_heap P5.out 0
                generalize hDD : DQ = D at *
                clear hDD
                refine wp_region_two Try.mixedOrders (by kernel_rfl) 8 12 13 (by decide) (by decide) (fun b1 b2 V => (b1 = false → V = W.drew) ∧ (b1 = true → b2 = false → V = W.drew.alloc (.cells #[.int .i64 0, .int .i64 0, .int .i64 0, .string ⟨#[]⟩, .int .i64 0, .int .i64 0, .bool false, .bool false] 40))) ⟨fun _ => rfl, fun c => (by cases c)⟩ (fun val => { tmps := #[_, _, _, _, _, _, _, _, _, _, _, _, _, _, _, _, _, _, _, _, _, _, _, val 12, _, _, _, _, _, _, _, _, _, _, _, _, _, _, _, _, _, _, _, _, _, _, _, _, _, _, _, _, _, _, _, _, _, _, _, _, _, _, _, _, _, _, _, _, _, _, _, _, _, _, _, _, _, _, _, _, _, _, _, _, _, _, _, _, _, _, _, _, _, _, _, _, _, _, _, _, _, _, _, _, _, _, _, _, _, _, _, _, _, _, _, _, _, _, _, _, _, _, _, _, _, _, _, _, _, _, _, _, _, _, _, _, _, _, _, _, _, _, _, _, val 0, val 1, val 2, val 3, val 4, val 5, val 6, val 7, val 8, val 9, val 10, val 11, _, _, _, _, _, _, _, _, _, _, _, _, _, _, _, _], defers := [] }) (fun i y V => match i with | 0 => y = .pointer (some ⟨pr, 0, none⟩) | 1 => y = .int .i64 (ri : Int) | 2 => y = .pointer (some ⟨pw, 0, none⟩) | 3 => y = .int .i64 (p1 : Int) | 4 => y = .string s | 5 => y = .slice (some ⟨tb, to, none⟩) TS.length tc | 6 => y = .int .i64 (xn : Int) | 7 => y = .pointer (some ⟨tb, to + xn, none⟩) | 8 => y = .int .i64 XA | 9 => y = .int .i64 (xn : Int) | 10 => y = .bool Z | 11 => y = .agg #[.int .i64 (ri : Int), .int .i64 (p1 : Int), .int .i64 4, .string s, .int .i64 0, .int .i64 XA, .bool Z, .bool false] | 12 => y = .pointer (some ⟨W.heap.size, 0, none⟩) | 13 => V = W.drew.alloc (.cells #[.int .i64 (ri : Int), .int .i64 (p1 : Int), .int .i64 4, .string s, .int .i64 0, .int .i64 XA, .bool Z, .bool false] 40) | _ => True) (fun i => match i with | 0 => u144 | 1 => u145 | 2 => u146 | 3 => u147 | 4 => u148 | 5 => u149 | 6 => u150 | 7 => u151 | 8 => u152 | 9 => u153 | 10 => u154 | 11 => u155 | 12 => u23 | 13 => undef | _ => undef) rfl _ rfl ⟨?_, ?_, ?_, ?_, ?_, ?_, ?_, ?_, ?_, ?_, ?_, ?_, ?_, ?_, trivial⟩ ?_
                · refine ⟨rfl, fun _ _ => rfl, fun val V b1 b2 hg n1 n2 a1 v0 hd => ?_⟩
                  refine does2_value (v := .pointer (some ⟨pr, 0, none⟩)) hg rfl rfl ?_ rfl
                  simp [execOp, Act.eval, go_sem]
                · refine ⟨rfl, fun _ _ => rfl, fun val V b1 b2 hg n1 n2 a1 v0 hd => ?_⟩
                  have h0 : val 0 = .pointer (some ⟨pr, 0, none⟩) := depsAll_get hd 0 (by kernel_rfl)
                  have hb2 := n2 (by kernel_rfl)
                  have hc : V.cell? ⟨pr, 0, none⟩ = some (.int .i64 (ri : Int)) := by
                    cases b1 with
                    | false => rw [hg.1 rfl]; exact xr
                    | true => rw [hg.2 rfl hb2]; exact Lib.cell?_alloc_some _ xr
                  refine does2_value (v := .int .i64 (ri : Int)) hg rfl rfl ?_ rfl
                  simp [execOp, Act.eval, go_sem, h0, hc]
                · refine ⟨rfl, fun _ _ => rfl, fun val V b1 b2 hg n1 n2 a1 v0 hd => ?_⟩
                  refine does2_value (v := .pointer (some ⟨pw, 0, none⟩)) hg rfl rfl ?_ rfl
                  simp [execOp, Act.eval, go_sem]
                · refine ⟨rfl, fun _ _ => rfl, fun val V b1 b2 hg n1 n2 a1 v0 hd => ?_⟩
                  have h2 : val 2 = .pointer (some ⟨pw, 0, none⟩) := depsAll_get hd 2 (by kernel_rfl)
                  have hb2 := n2 (by kernel_rfl)
                  have hc : V.cell? ⟨pw, 0, none⟩ = some (.int .i64 (p1 : Int)) := by
                    cases b1 with
                    | false => rw [hg.1 rfl]; exact xp
                    | true => rw [hg.2 rfl hb2]; exact Lib.cell?_alloc_some _ xp
                  refine does2_value (v := .int .i64 (p1 : Int)) hg rfl rfl ?_ rfl
                  simp [execOp, Act.eval, go_sem, h2, hc]
                · refine ⟨rfl, fun _ _ => rfl, fun val V b1 b2 hg n1 n2 a1 v0 hd => ?_⟩
                  refine does2_value (v := .string s) hg rfl rfl ?_ rfl
                  simp [execOp, Act.eval, go_sem]
                · refine ⟨rfl, fun _ _ => rfl, fun val V b1 b2 hg n1 n2 a1 v0 hd => ?_⟩
                  refine does2_value (v := .slice (some ⟨tb, to, none⟩) TS.length tc) hg rfl rfl ?_ rfl
                  simp [execOp, Act.eval, go_sem]
                · refine ⟨rfl, fun _ _ => rfl, fun val V b1 b2 hg n1 n2 a1 v0 hd => ?_⟩
                  refine does2_value (v := .int .i64 (xn : Int)) hg rfl rfl ?_ rfl
                  simp [execOp, Act.eval, go_sem]
                · refine ⟨rfl, fun _ _ => rfl, fun val V b1 b2 hg n1 n2 a1 v0 hd => ?_⟩
                  have h5 : val 5 = .slice (some ⟨tb, to, none⟩) TS.length tc := depsAll_get hd 5 (by kernel_rfl)
                  have h6 : val 6 = .int .i64 (xn : Int) := depsAll_get hd 6 (by kernel_rfl)
                  refine does2_value (v := .pointer (some ⟨tb, to + xn, none⟩)) hg rfl rfl ?_ rfl
                  simp [execOp, Act.eval, go_sem, h5, h6, hxli]
                · refine ⟨rfl, fun _ _ => rfl, fun val V b1 b2 hg n1 n2 a1 v0 hd => ?_⟩
                  have h7 : val 7 = .pointer (some ⟨tb, to + xn, none⟩) := depsAll_get hd 7 (by kernel_rfl)
                  have hb2 := n2 (by kernel_rfl)
                  have hc : V.cell? ⟨tb, to + xn, none⟩ = some (.int .i64 XA) := by
                    cases b1 with
                    | false => rw [hg.1 rfl]; exact xt
                    | true => rw [hg.2 rfl hb2]; exact Lib.cell?_alloc_some _ xt
                  refine does2_value (v := .int .i64 XA) hg rfl rfl ?_ rfl
                  simp [execOp, Act.eval, go_sem, h7, hc]
                · refine ⟨rfl, fun _ _ => rfl, fun val V b1 b2 hg n1 n2 a1 v0 hd => ?_⟩
                  refine does2_value (v := .int .i64 (xn : Int)) hg rfl rfl ?_ rfl
                  simp [execOp, Act.eval, go_sem]
                · refine ⟨rfl, fun _ _ => rfl, fun val V b1 b2 hg n1 n2 a1 v0 hd => ?_⟩
                  have h9 : val 9 = .int .i64 (xn : Int) := depsAll_get hd 9 (by kernel_rfl)
                  refine does2_value (v := .bool Z) hg rfl rfl ?_ rfl
                  simp [execOp, Act.eval, go_sem, h9, hz]
                · refine ⟨rfl, fun _ _ => rfl, fun val V b1 b2 hg n1 n2 a1 v0 hd => ?_⟩
                  have h1 : val 1 = .int .i64 (ri : Int) := depsAll_get hd 1 (by kernel_rfl)
                  have h3 : val 3 = .int .i64 (p1 : Int) := depsAll_get hd 3 (by kernel_rfl)
                  have h4 : val 4 = .string s := depsAll_get hd 4 (by kernel_rfl)
                  have h8 : val 8 = .int .i64 XA := depsAll_get hd 8 (by kernel_rfl)
                  have h10 : val 10 = .bool Z := depsAll_get hd 10 (by kernel_rfl)
                  refine does2_value (v := .agg #[.int .i64 (ri : Int), .int .i64 (p1 : Int), .int .i64 4, .string s, .int .i64 0, .int .i64 XA, .bool Z, .bool false]) hg rfl rfl ?_ rfl
                  simp [execOp, Act.eval, go_sem, h1, h3, h4, h8, h10]
                · refine ⟨rfl, fun _ _ => rfl, fun val V b1 b2 hg n1 n2 a1 v0 hd => ?_⟩
                  obtain rfl : V = W.drew := hg.1 (n1 (by kernel_rfl))
                  refine does2_grown (v := .pointer (some ⟨W.heap.size, 0, none⟩)) (w' := W.drew.alloc (.cells #[.int .i64 0, .int .i64 0, .int .i64 0, .string ⟨#[]⟩, .int .i64 0, .int .i64 0, .bool false, .bool false] 40)) ?_ rfl ⟨fun c => (by simp at c), fun _ _ => rfl⟩ ?_
                  · simp [execOp, Act.eval, go_sem]
                  · intro j y hj hne hnd hr
                    match j, hj, hne, hnd, hr with
                    | 0, _, _, _, hr => exact hr
                    | 1, _, _, _, hr => exact hr
                    | 2, _, _, _, hr => exact hr
                    | 3, _, _, _, hr => exact hr
                    | 4, _, _, _, hr => exact hr
                    | 5, _, _, _, hr => exact hr
                    | 6, _, _, _, hr => exact hr
                    | 7, _, _, _, hr => exact hr
                    | 8, _, _, _, hr => exact hr
                    | 9, _, _, _, hr => exact hr
                    | 10, _, _, _, hr => exact hr
                    | 11, _, _, _, hr => exact hr
                    | 12, _, hne, _, _ => exact absurd rfl hne
                    | 13, _, _, hnd, _ => exact absurd hnd (by decide +kernel)
                    | j + 14, hj, _, _, _ => exact absurd hj (by simp)
                · refine ⟨rfl, fun _ _ => rfl, fun val V b1 b2 hg n1 n2 a1 v0 hd => ?_⟩
                  have h11 : val 11 = .agg #[.int .i64 (ri : Int), .int .i64 (p1 : Int), .int .i64 4, .string s, .int .i64 0, .int .i64 XA, .bool Z, .bool false] := depsAll_get hd 11 (by kernel_rfl)
                  have h12 : val 12 = .pointer (some ⟨W.heap.size, 0, none⟩) := depsAll_get hd 12 (by kernel_rfl)
                  obtain rfl : b1 = true := a1 (by kernel_rfl)
                  obtain rfl : b2 = false := n2 (by kernel_rfl)
                  obtain rfl : V = W.drew.alloc (.cells #[.int .i64 0, .int .i64 0, .int .i64 0, .string ⟨#[]⟩, .int .i64 0, .int .i64 0, .bool false, .bool false] 40) := hg.2 rfl rfl
                  refine does2_skip (w' := W.drew.alloc (.cells #[.int .i64 (ri : Int), .int .i64 (p1 : Int), .int .i64 4, .string s, .int .i64 0, .int .i64 XA, .bool Z, .bool false] 40)) ?_ rfl ⟨fun c => (by simp at c), fun _ c => (by simp at c)⟩ ?_
                  · simp [execOp, Act.eval, go_sem, h11, h12]
                  · intro j y hj hne hnd hr
                    match j, hj, hne, hnd, hr with
                    | 0, _, _, _, hr => exact hr
                    | 1, _, _, _, hr => exact hr
                    | 2, _, _, _, hr => exact hr
                    | 3, _, _, _, hr => exact hr
                    | 4, _, _, _, hr => exact hr
                    | 5, _, _, _, hr => exact hr
                    | 6, _, _, _, hr => exact hr
                    | 7, _, _, _, hr => exact hr
                    | 8, _, _, _, hr => exact hr
                    | 9, _, _, _, hr => exact hr
                    | 10, _, _, _, hr => exact hr
                    | 11, _, _, _, hr => exact hr
                    | 12, _, _, _, hr => exact hr
                    | 13, _, hne, _, _ => exact absurd rfl hne
                    | j + 14, hj, _, _, _ => exact absurd hj (by simp)
                intro val w6 _ hR
                have h12 : val 12 = .pointer (some ⟨W.heap.size, 0, none⟩) := hR 12 (by decide)
                have h13 : w6 = W.drew.alloc (.cells #[.int .i64 (ri : Int), .int .i64 (p1 : Int), .int .i64 4, .string s, .int .i64 0, .int .i64 XA, .bool Z, .bool false] 40) := hR 13 (by decide)
                subst h13
                have P7 := hid (heap_alloc_new W.drew (.cells #[.int .i64 (ri : Int), .int .i64 (p1 : Int), .int .i64 4, .string s, .int .i64 0, .int .i64 XA, .bool Z, .bool false] 40))
                have bw : Below W.heap.size W (W.drew.alloc (.cells #[.int .i64 (ri : Int), .int .i64 (p1 : Int), .int .i64 4, .string s, .int .i64 0, .int .i64 XA, .bool Z, .bool false] 40)) := ⟨rfl, rfl, rfl, (by rw [alloc_size]; exact Nat.le_succ _), fun g hg => by rw [alloc_at, if_neg (show ¬ g = W.drew.heap.size from by show ¬ g = W.heap.size; omega)]; rfl⟩
                have B7 := hid (B5.out.trans (bw.mono B5.out.size))
                have O7 := hid (own_same O5.out (fun g hg => bw.block g (own_block O5.out hg).2.1))
                have RR7 := hid (own_same RR5.out (fun g hg => bw.block g (own_block RR5.out hg).2.1))
                have R7 := hid ((bw.block pr (blt P5.out)).trans P5.out)
                have hn1 : w1.heap.size ≤ W.heap.size := B5.out.size
                have HO7 : Hid (∀ g, Value.ownBlock u7 = some g → g ≠ W.heap.size) := fun g hg => by have := (own_block O5.out hg).2.1; omega
                have HR7 : Hid (∀ g, Value.ownBlock (.slice (some ⟨g8, 0, none⟩) R.length rc) = some g → g ≠ W.heap.size) := fun g hg => by have := (own_block RR5.out hg).2.1; omega
                clear hR bw B5 O5 RR5 P5 Q5 xp xr xt
                generalize W.drew.alloc (.cells #[.int .i64 (ri : Int), .int .i64 (p1 : Int), .int .i64 4, .string s, .int .i64 0, .int .i64 XA, .bool Z, .bool false] 40) = W7 at *
                rw [show W.drew.heap.size = W.heap.size from rfl] at P7
                rw [h12]
                clear h12
                generalize W.heap.size = nb at *
                by_cases hx0 : xn = 0
                · have hV := HV0.out hx0
                  have hx0i : ¬ (0 : Int) < xn := by omega
                  have z0 : W7.cell? ⟨nb, 0, none⟩ = some (.int .i64 ri) := Lib.cell_of_heap P7.out 0
                  have z1 : W7.cell? ⟨nb, 1, none⟩ = some (.int .i64 p1) := Lib.cell_of_heap P7.out 1
                  have z2 : W7.cell? ⟨nb, 2, none⟩ = some (.int .i64 4) := Lib.cell_of_heap P7.out 2
                  have z3 : W7.cell? ⟨nb, 3, none⟩ = some (.string s) := Lib.cell_of_heap P7.out 3
                  have z4 : W7.cell? ⟨nb, 4, none⟩ = some (.int .i64 0) := Lib.cell_of_heap P7.out 4
                  have z5 : W7.cell? ⟨nb, 5, none⟩ = some (.int .i64 XA) := Lib.cell_of_heap P7.out 5
                  have z6 : W7.cell? ⟨nb, 6, none⟩ = some (.bool Z) := Lib.cell_of_heap P7.out 6
                  have z7 : W7.cell? ⟨nb, 7, none⟩ = some (.bool false) := Lib.cell_of_heap P7.out 7
                  subst hV
                  clear LV HV0 TCX
                  have SZ : Hid ((W7.alloc (.cells #[.int .i64 (ri : Int), .int .i64 (p1 : Int), .int .i64 4, .string s, .int .i64 0, .int .i64 XA, .bool Z, .bool false] 40)).heap.size = W7.heap.size + 1) := alloc_size _ _
                  have OX : Hid ((W7.alloc (.cells #[.int .i64 (ri : Int), .int .i64 (p1 : Int), .int .i64 4, .string s, .int .i64 0, .int .i64 XA, .bool Z, .bool false] 40)).ownsRow w1.heap.size 40 8 u7 D.length (whysC D)) := own_same O7.out (fun g hg => (below_box W7 _).block g (own_block O7.out hg).2.1)
                  have BX : Hid (Below w1.heap.size w1 (W7.alloc (.cells #[.int .i64 (ri : Int), .int .i64 (p1 : Int), .int .i64 4, .string s, .int .i64 0, .int .i64 XA, .bool Z, .bool false] 40))) := B7.out.trans ((below_box W7 _).mono B7.out.size)
                  have RX9 : Hid ((W7.alloc (.cells #[.int .i64 (ri : Int), .int .i64 (p1 : Int), .int .i64 4, .string s, .int .i64 0, .int .i64 XA, .bool Z, .bool false] 40)).ownsRow w1.heap.size 87 3 (.slice (some ⟨g8, 0, none⟩) R.length rc) R.length (rdC R)) := own_same RR7.out (fun g hg => (below_box W7 _).block g (own_block RR7.out hg).2.1)
                  have NB : Hid ((W7.alloc (.cells #[.int .i64 (ri : Int), .int .i64 (p1 : Int), .int .i64 4, .string s, .int .i64 0, .int .i64 XA, .bool Z, .bool false] 40)).heap[W7.heap.size]? = some (.cells (whyCs ((ri : Int), (p1 : Int), 4, s, 0, XA, Z)).toArray 40)) := heap_alloc_new W7 _
                  go_wp2_with (at_builtin; refine wpList_appendW rfl w1.heap.size _ _ _ rfl u7 D ((ri : Int), (p1 : Int), 4, s, 0, XA, Z) rfl W7.heap.size rfl NB.out OX.out BX.out.size (by omega) ?_; intro v9 w9 ho9 hb9 hs9; have O9 := hid ho9; have B9 := hid (BX.out.trans hb9); have RR9 := hid (own_same RX9.out (fun g hg => hs9 g (own_block RX9.out hg).2.1 (rows_apart OX.out RX9.out (by decide) hg))); clear ho9 hb9 hs9)
                  go_roundg (R.length - (q + 1))
                  case measure => omega
                  case rel => exact ⟨q + 1, by omega, by omega, by go_num, B9.out, (show Aside _ from by rw [WE.out]; exact O9.out), RR9.out⟩
                · obtain ⟨m, hm⟩ : ∃ m, xn = m + 1 := ⟨xn - 1, by omega⟩
                  obtain ⟨lb, lo, hla, xl⟩ := LV.out m hm W7 B7.out
                  subst hla
                  subst hm
                  have hx0i : (0 : Int) < ((m + 1 : Nat) : Int) := by omega
                  have r2 : W7.cell? ⟨pr, 2, none⟩ = some (.slice (some ⟨lb, lo, none⟩) (m + 1) lc) := Lib.cell_of_heap R7.out 2
                  have z4 : W7.cell? ⟨nb, 4, none⟩ = some (.int .i64 0) := Lib.cell_of_heap P7.out 4
                  have zf : W7.frozen? ⟨nb, 4, none⟩ = false := Joins.unfrozen_of_block P7.out 4
                  clear LV HV0 TCX
                  go_upto_region 28 with fail
                  have P8 : Hid ((W7.setCell ⟨nb, 4, none⟩ (.int .i64 V)).heap[nb]? = some (.cells #[.int .i64 (ri : Int), .int .i64 (p1 : Int), .int .i64 4, .string s, .int .i64 V, .int .i64 XA, .bool Z, .bool false] 40)) := Joins.block_setCell P7.out _
                  have S8 : Hid (∀ g, g ≠ nb → (W7.setCell ⟨nb, 4, none⟩ (.int .i64 V)).heap[g]? = W7.heap[g]?) := fun g hg => set_ne hg
                  have B8' : Hid (Below w1.heap.size w1 (W7.setCell ⟨nb, 4, none⟩ (.int .i64 V))) := B7.out.setCell hn1 _
                  have O8' : Hid ((W7.setCell ⟨nb, 4, none⟩ (.int .i64 V)).ownsRow w1.heap.size 40 8 u7 D.length (whysC D)) := own_same O7.out (fun g hg => S8.out g (HO7.out g hg))
                  have RR8' : Hid ((W7.setCell ⟨nb, 4, none⟩ (.int .i64 V)).ownsRow w1.heap.size 87 3 (.slice (some ⟨g8, 0, none⟩) R.length rc) R.length (rdC R)) := own_same RR7.out (fun g hg => S8.out g (HR7.out g hg))
                  clear S8 z4 r2 xl P7 B7 O7 RR7 R7
                  generalize W7.setCell ⟨nb, 4, none⟩ (.int .i64 V) = W8 at *
                  have z0 : W8.cell? ⟨nb, 0, none⟩ = some (.int .i64 ri) := Lib.cell_of_heap P8.out 0
                  have z1 : W8.cell? ⟨nb, 1, none⟩ = some (.int .i64 p1) := Lib.cell_of_heap P8.out 1
                  have z2 : W8.cell? ⟨nb, 2, none⟩ = some (.int .i64 4) := Lib.cell_of_heap P8.out 2
                  have z3 : W8.cell? ⟨nb, 3, none⟩ = some (.string s) := Lib.cell_of_heap P8.out 3
                  have z4 : W8.cell? ⟨nb, 4, none⟩ = some (.int .i64 V) := Lib.cell_of_heap P8.out 4
                  have z5 : W8.cell? ⟨nb, 5, none⟩ = some (.int .i64 XA) := Lib.cell_of_heap P8.out 5
                  have z6 : W8.cell? ⟨nb, 6, none⟩ = some (.bool Z) := Lib.cell_of_heap P8.out 6
                  have z7 : W8.cell? ⟨nb, 7, none⟩ = some (.bool false) := Lib.cell_of_heap P8.out 7
                  have SZ : Hid ((W8.alloc (.cells #[.int .i64 (ri : Int), .int .i64 (p1 : Int), .int .i64 4, .string s, .int .i64 V, .int .i64 XA, .bool Z, .bool false] 40)).heap.size = W8.heap.size + 1) := alloc_size _ _
                  have OX : Hid ((W8.alloc (.cells #[.int .i64 (ri : Int), .int .i64 (p1 : Int), .int .i64 4, .string s, .int .i64 V, .int .i64 XA, .bool Z, .bool false] 40)).ownsRow w1.heap.size 40 8 u7 D.length (whysC D)) := own_same O8'.out (fun g hg => (below_box W8 _).block g (own_block O8'.out hg).2.1)
                  have BX : Hid (Below w1.heap.size w1 (W8.alloc (.cells #[.int .i64 (ri : Int), .int .i64 (p1 : Int), .int .i64 4, .string s, .int .i64 V, .int .i64 XA, .bool Z, .bool false] 40))) := B8'.out.trans ((below_box W8 _).mono B8'.out.size)
                  have RX9 : Hid ((W8.alloc (.cells #[.int .i64 (ri : Int), .int .i64 (p1 : Int), .int .i64 4, .string s, .int .i64 V, .int .i64 XA, .bool Z, .bool false] 40)).ownsRow w1.heap.size 87 3 (.slice (some ⟨g8, 0, none⟩) R.length rc) R.length (rdC R)) := own_same RR8'.out (fun g hg => (below_box W8 _).block g (own_block RR8'.out hg).2.1)
                  have NB : Hid ((W8.alloc (.cells #[.int .i64 (ri : Int), .int .i64 (p1 : Int), .int .i64 4, .string s, .int .i64 V, .int .i64 XA, .bool Z, .bool false] 40)).heap[W8.heap.size]? = some (.cells (whyCs ((ri : Int), (p1 : Int), 4, s, V, XA, Z)).toArray 40)) := heap_alloc_new W8 _
                  go_wp2_with (at_builtin; refine wpList_appendW rfl w1.heap.size _ _ _ rfl u7 D ((ri : Int), (p1 : Int), 4, s, V, XA, Z) rfl W8.heap.size rfl NB.out OX.out BX.out.size (by omega) ?_; intro v9 w9 ho9 hb9 hs9; have O9 := hid ho9; have B9 := hid (BX.out.trans hb9); have RR9 := hid (own_same RX9.out (fun g hg => hs9 g (own_block RX9.out hg).2.1 (rows_apart OX.out RX9.out (by decide) hg))); clear ho9 hb9 hs9)
                  go_roundg (R.length - (q + 1))
                  case measure => omega
                  case rel => exact ⟨q + 1, by omega, by omega, by go_num, B9.out, (show Aside _ from by rw [WE.out]; exact O9.out), RR9.out⟩
              · have hxge : (TS.length : Int) ≤ xs.length := by omega
                have WE : Hid (dd3 F s TS RX (q + 1) = DQ) := by show _ = _; rw [DN.out]; simp [rwE, hxl]
                clear DN LQ
                go_wp2_with fail
                go_roundg (R.length - (q + 1))
                case measure => omega
                case rel => exact ⟨q + 1, by omega, by omega, by go_num, (BA _).out, (show Aside _ from by rw [WE.out]; exact (OA _).out), (RA _).out⟩
            · have hqe : q = R.length := by omega
              have hq1i : ¬ (q : Int) < R.length := by omega
              have OF : Hid (wr.ownsRow w1.heap.size 40 8 u7 (depsL F s TS RX).length (whysC (depsL F s TS RX))) := by
                rw [← D3A.out, ← HLEN.out, ← hqe]
                exact OR.out
              have hdl : (depsL F s TS RX).length ≤ 500000 := by
                have := dd3_len F s TS RX RX.length
                rw [D3A.out] at this
                omega
              have ON := hid (once_is w1.heap.size u7 (depsL F s TS RX) wr OF.out hdl)
              clear hqe OR RR
              go_wp2_with (go_at_call 48; refine ON.out.mono ?_; rintro e w5 ⟨v5, rfl, o5, b5⟩; have O5 := hid o5; have B5 := hid b5; clear o5 b5)
              go_ret
              have BW : Below w.heap.size w wr := B1.out.trans (BR.out.mono B1.out.size)
              exact ⟨_, rfl, (by rw [EDG.out]; exact own_base O5.out BW.size), BW.trans (B5.out.mono BW.size)⟩
end Go.Proofs.Ytnfbcmnlloipiaa
