/-
  serial: the walk.
-/
import Derived.Test.YtnfbcmnlloipiaaV14
import Derived.Test.YtnfbcmnlloipiaaV15
import Derived.Test.YtnfbcmnlloipiaaV16
namespace Go.Proofs.Ytnfbcmnlloipiaa
set_option linter.unusedVariables false
set_option linter.unusedSimpArgs false
open Go.RowKit Go.Lib Go.Maps
open Tx (MTxn info_parts RowsIn.cells RowCells TxnRow TxnsIn)

/-- Behind k transactions. -/
def OutS (w0 : World) (mb : Nat) (outv : Value) (n k : Nat) (w : World) : Prop := ∃ P D m rT L, MI w0.heap.size mb P D w m outv rT L (fun s => apV s (ntL L [])) ∧ PI L [] n ∧ L.length = k ∧ m ≤ n ∧ Below w0.heap.size w0 w
/-- Behind j operations of the next one. -/
def InS (w0 : World) (mb yb : Nat) (outv : Value) (k : Nat) (a b : Int) (n j : Nat) (w : World) : Prop := ∃ P D m rT L opsv rO O, MY w0.heap.size mb yb P D w m outv rT L (fun s => apV s (ntL L O)) opsv rO O a b ∧ PI L O n ∧ L.length = k ∧ m ≤ n ∧ O.length ≤ j ∧ Below w0.heap.size w0 w
section
variable {w0 w w' : World} {mb yb n k j : Nat} {outv : Value} {a b : Int}
theorem OutS.later (h : OutS w0 mb outv n k w) (hb : Below w.heap.size w w') : OutS w0 mb outv n k w' := by
  obtain ⟨P, D, m, rT, L, h1, h2, h3, h4, h5⟩ := h
  exact ⟨P, D, m, rT, L, h1.later hb, h2, h3, h4, h5.trans (hb.mono h5.size)⟩
theorem InS.later (h : InS w0 mb yb outv k a b n j w) (hb : Below w.heap.size w w') : InS w0 mb yb outv k a b n j w' := by
  obtain ⟨P, D, m, rT, L, opsv, rO, O, h1, h2, h3, h4, h5, h6⟩ := h
  exact ⟨P, D, m, rT, L, opsv, rO, O, h1.later hb, h2, h3, h4, h5, h6.trans (hb.mono h6.size)⟩
theorem InS.more (h : InS w0 mb yb outv k a b n j w) : InS w0 mb yb outv k a b n (j + 1) w := by
  obtain ⟨P, D, m, rT, L, opsv, rO, O, h1, h2, h3, h4, h5, h6⟩ := h
  exact ⟨P, D, m, rT, L, opsv, rO, O, h1, h2, h3, h4, by omega, h6⟩
theorem InS.below (h : InS w0 mb yb outv k a b n j w) : Below w0.heap.size w0 w := by
  obtain ⟨P, D, m, rT, L, opsv, rO, O, h1, h2, h3, h4, h5, h6⟩ := h
  exact h6
theorem InS.num (h : InS w0 mb yb outv k a b n j w) : n ≤ 10 * k + j := by
  obtain ⟨P, D, m, rT, L, opsv, rO, O, h1, h2, h3, h4, h5, h6⟩ := h
  have := h2.size
  omega
theorem OutS.below (h : OutS w0 mb outv n k w) : Below w0.heap.size w0 w := by
  obtain ⟨P, D, m, rT, L, h1, h2, h3, h4, h5⟩ := h
  exact h5
theorem OutS.num (h : OutS w0 mb outv n k w) : n ≤ 10 * k := by
  obtain ⟨P, D, m, rT, L, h1, h2, h3, h4, h5⟩ := h
  have := h2.size
  simp only [List.length_nil] at this
  omega
theorem OutS.slice (h : OutS w0 mb outv n k w) : ∃ a c, outv = .slice a k c := by
  obtain ⟨P, D, m, rT, L, h1, h2, h3, h4, h5⟩ := h
  rw [← h3]
  exact own_slice h1.out.own
theorem OutS.begin (h : OutS w0 mb outv n k w) (a b : Int) : InS w0 mb w.heap.size outv k a b n 0 (w.alloc (.cells #[.int .i64 0, .int .i64 1, .int .i64 a, .int .i64 b, .slice none 0 0] 47)) := by
  obtain ⟨P, D, m, rT, L, h1, h2, h3, h4, h5⟩ := h
  have hb := below_box w (.cells #[.int .i64 0, .int .i64 1, .int .i64 a, .int .i64 b, .slice none 0 0] 47)
  refine ⟨P, D, m, rT, L, .slice none 0 0, [], [], ⟨h1.later hb, OutP.nil, heap_alloc_new w _, h5.size, fun c => ?_, fun c => ?_⟩, h2, h3, h4, by simp, h5.trans (hb.mono h5.size)⟩
  · have := (h1.plt _ c).2
    omega
  · have := (own_block h1.out.own c).2.1
    omega
theorem OutS.start (w : World) : OutS w w.heap.size (.slice none 0 0) 0 0 (w.alloc (.map #[] 0)) := by
  refine ⟨fun _ => False, fun _ => .slice none 0 0, 0, [], [], ⟨fun b h => h.elim, ⟨⟨_, MapV.made w _ _, fun s => rfl⟩, fun s _ => rfl, fun s => World.ownsRow_nil _ _ _ _, fun s gb h => (by cases h), fun s s' gb h => (by cases h), Nat.le_refl _, fun h => h⟩, OutP.nil⟩, PI.nil, rfl, Nat.le_refl _, below_box w _⟩
end
theorem Try.infoTxnE : (Try.prog.info? 47).map (fun i => (i.zero, i.size, i.bytes)) = some (some (.agg #[.int .i64 0, .int .i64 0, .int .i64 0, .int .i64 0, .slice none 0 0]), 5, 56) := by kernel_rfl
theorem Try.infoOpE : (Try.prog.info? 49).map (fun i => (i.zero, i.size, i.bytes)) = some (some (.agg #[.int .i64 0, .string ByteArray.empty, .int .i64 0, .slice none 0 0, .bool false, .bool false]), 6, 64) := by kernel_rfl
theorem Try.infoIntE : (Try.prog.info? 3).map (fun i => (i.zero, i.size, i.bytes)) = some (some (.int .i64 0), 1, 8) := by kernel_rfl
def SerPost (w : World) (n : Nat) (e : Ending) (w' : World) : Prop := ∃ v' L, e = .returned v' ∧ TxnsIn Any w' v' L ∧ Ser L ∧ Good L ∧ L.length = n ∧ Below w.heap.size w w'
theorem OutS.over {w0 w : World} {mb n k : Nat} {outv : Value} (h : OutS w0 mb outv n k w) (hk : k ≤ 40) : SerPost w0 k (.returned outv) w := by
  obtain ⟨P, D, m, rT, L, h1, h2, h3, h4, h5⟩ := h
  have q := h2.over (by omega)
  exact ⟨outv, L, rfl, h1.out.rows_in txnRow_keep (by omega) (fun _ _ => trivial) (fun _ _ => trivial), q.1, q.2, h3, h5⟩
/-- An operation that was read out of memory stands in a box. -/
theorem InS.box {w0 w : World} {mb yb k n j : Nat} {outv : Value} {a b : Int} (h : InS w0 mb yb outv k a b n j w) : ∃ ov, w.cell? ⟨yb, 4, none⟩ = some ov := by
  obtain ⟨P, D, m, rT, L, opsv, rO, O, h1, h2, h3, h4, h5, h6⟩ := h
  exact ⟨opsv, Lib.cell_of_heap h1.box 4⟩
section
variable {w0 w w' w3 : World} {mb yb n m j g3 cap : Nat} {outv : Value} {a b : Int} {P : Nat → Prop} {D : ByteArray → Value} {rT : List (List Value)} {L : List MTxn} {opsv : Value} {rO : List (List Value)} {O : List MOp} {g : ByteArray → List Int}
theorem below_gr {B : Nat} {u u' : World} {v : Value} {e z k : Nat} {xs : List Value} (h : u.ownsRow B e z v k xs) (hB : B ≤ u'.heap.size) {u3 : World} (hgr : u'.grownBy u3 v.ownBlock) : Below B u' u3 :=
  ⟨hgr.os, hgr.tape, hgr.output, hgr.size, fun b hb => hgr.block b (by omega) (fun e => by have := (own_block h e.symm).1; omega)⟩
theorem done_s (h1 : MY w0.heap.size mb yb P D w m outv rT L (fun s => apV s (ntL L O)) opsv rO O a b) (h2 : PI L O n) (h4 : m ≤ n) (h5 : O.length ≤ 10) (h6 : Below w0.heap.size w0 w) (hb : Below w.heap.size w w')
    (hown : w3.ownsRow w0.heap.size 47 5 (.slice (some ⟨g3, 0, none⟩) (L.length + 1) cap) (L.length + 1) (rT.flatten ++ [.int .i64 0, .int .i64 1, .int .i64 a, .int .i64 b, opsv])) (hgr : w'.grownBy w3 outv.ownBlock) (hat : outv.ownBlock = some g3 ∨ g3 = w'.heap.size) : OutS w0 mb (.slice (some ⟨g3, 0, none⟩) (L.length + 1) cap) n (L.length + 1) w3 := by
  have b1 : Below w0.heap.size w0 w' := h6.trans (hb.mono h6.size)
  have q := h1.done hb h5 hown hgr hat
  have e : (fun s => apV s (ntL (L ++ [((0 : Int), (1 : Int), a, b, O)]) [])) = fun s => apV s (ntL L O) := by funext s; rw [ntL_txn]
  rw [← e] at q
  exact ⟨_, _, _, _, _, q, h2.txn h5 a b, by simp, h4, b1.trans (below_gr h1.mi.out.own b1.size hgr)⟩
theorem below_set {B : Nat} {u : World} {yb : Nat} (h : B ≤ yb) (x : Value) : Below B u (u.setCell ⟨yb, 4, none⟩ x) := ⟨rfl, rfl, rfl, by simp [World.setCell], fun b hb => set_ne (by show b ≠ yb; omega)⟩
theorem app_s {key : ByteArray} (h1 : MY w0.heap.size mb yb P D w m outv rT L (fun s => if s = key then apV key (ntL L O) ++ [(n : Int) + 1] else apV s (ntL L O)) opsv rO O a b) (h2 : PI L O n) (hL : L.length ≤ 40) (hO : O.length < 10) (hk : key.size ≤ 281474976710656) (h4 : m ≤ n + 1) (h5 : O.length ≤ j) (h6 : Below w0.heap.size w0 w) (hb : Below w.heap.size w w')
    (hown : w3.ownsRow w0.heap.size 49 6 (.slice (some ⟨g3, 0, none⟩) (O.length + 1) cap) (O.length + 1) (rO.flatten ++ [.int .i64 1, .string key, .int .i64 ((n : Int) + 1), .slice none 0 0, .bool false, .bool false])) (hgr : w'.grownBy w3 opsv.ownBlock) (hat : opsv.ownBlock = some g3 ∨ g3 = w'.heap.size) :
    InS w0 mb yb outv L.length a b (n + 1) (j + 1) (w3.setCell ⟨yb, 4, none⟩ (.slice (some ⟨g3, 0, none⟩) (O.length + 1) cap)) := by
  have b1 : Below w0.heap.size w0 w' := h6.trans (hb.mono h6.size)
  have q := h1.push hb h6.size w.heap.size (Nat.le_refl _) hb.size (row := [.int .i64 1, .string key, .int .i64 ((n : Int) + 1), .slice none 0 0, .bool false, .bool false]) (x := ((1 : Int), key, (n : Int) + 1, [], false, false)) ⟨.slice none 0 0, rfl, none, 0, rfl, ⟨(by decide : 0 * 8 ≤ 140737488355328), Nat.zero_le _⟩, fun h0 => absurd h0 (Nat.lt_irrefl 0)⟩ rfl hown hgr hat
  have e : (fun s => apV s (ntL L (O ++ [((1 : Int), key, (n : Int) + 1, [], false, false)]))) = (fun s => if s = key then apV key (ntL L O) ++ [(n : Int) + 1] else apV s (ntL L O)) := by
    funext s
    rw [ntL_more, apV_snoc]
    by_cases hs : s = key
    · subst hs
      rw [if_pos rfl, if_pos (by simp [isA])]
    · rw [if_neg hs, if_neg (by simp [isA]; exact fun c => hs c.symm), List.append_nil]
  rw [← e] at q
  exact ⟨_, _, _, _, _, _, _, _, q, h2.app hL hO key hk, rfl, h4, by simp; omega, (b1.trans (below_gr h1.ops.own b1.size hgr)).trans (below_set h1.yl _)⟩
theorem read_s {key : ByteArray} {lv : Value} (h1 : MY w0.heap.size mb yb P D w m outv rT L (fun s => apV s (ntL L O)) opsv rO O a b) (h2 : PI L O n) (hL : L.length ≤ 40) (hO : O.length < 10) (hk : key.size ≤ 281474976710656) (h4 : m ≤ n) (h5 : O.length ≤ j) (h6 : Below w0.heap.size w0 w) (hb : Below w.heap.size w w') (hlv : IntsIn (fun k => w.heap.size ≤ k ∧ k < w'.heap.size) w' lv (apV key (ntL L O)))
    (hown : w3.ownsRow w0.heap.size 49 6 (.slice (some ⟨g3, 0, none⟩) (O.length + 1) cap) (O.length + 1) (rO.flatten ++ [.int .i64 2, .string key, .int .i64 0, lv, .bool true, .bool false])) (hgr : w'.grownBy w3 opsv.ownBlock) (hat : opsv.ownBlock = some g3 ∨ g3 = w'.heap.size) :
    InS w0 mb yb outv L.length a b n (j + 1) (w3.setCell ⟨yb, 4, none⟩ (.slice (some ⟨g3, 0, none⟩) (O.length + 1) cap)) := by
  have b1 : Below w0.heap.size w0 w' := h6.trans (hb.mono h6.size)
  have q := h1.push hb h6.size w'.heap.size hb.size (Nat.le_refl _) (row := [.int .i64 2, .string key, .int .i64 0, lv, .bool true, .bool false]) (x := ((2 : Int), key, (0 : Int), apV key (ntL L O), true, false)) ⟨lv, rfl, hlv.keep (fun _ _ _ => rfl) (fun _ _ x => .inr x)⟩ rfl hown hgr hat
  have e : (fun s => apV s (ntL L (O ++ [((2 : Int), key, (0 : Int), apV key (ntL L O), true, false)]))) = (fun s => apV s (ntL L O)) := by
    funext s
    rw [ntL_more, apV_snoc, if_neg (by simp [isA, MOp.kind]), List.append_nil]
  rw [← e] at q
  exact ⟨_, _, _, _, _, _, _, _, q, h2.read hL hO key hk, rfl, h4, by simp; omega, (b1.trans (below_gr h1.ops.own b1.size hgr)).trans (below_set h1.yl _)⟩
end
/-- append of a number, of an operation, to a row of one's own. -/
theorem wp_appendI {o : Oper} {A : Act} {K : Act → World → Prop} {Q : Exit → Act → World → Prop} (base : Nat) (V : World) (s x : Operand)
    (ho : o.op = .call { callee := .builtin .append, args := #[s, x], argTypes := #[28, 28] }) (out : Value) (xs : List Int) (y : Int) (hs : A.eval s = out) (nb : Nat) (hx : A.eval x = .slice (some ⟨nb, 0, none⟩) 1 1) (hblk : V.heap[nb]? = some (.cells #[.int .i64 y] 3))
    (h1 : V.ownsRow base 3 1 out xs.length (xs.map (Value.int .i64))) (hb : base ≤ V.heap.size) (hl : xs.length ≤ 400000)
    (hK : ∀ g cap V', V'.ownsRow base 3 1 (.slice (some ⟨g, 0, none⟩) (xs.length + 1) cap) (xs.length + 1) (xs.map (Value.int .i64) ++ [.int .i64 y]) → V.grownBy V' out.ownBlock → (out.ownBlock = some g ∨ g = V.heap.size) → K (A.put o.dst (.slice (some ⟨g, 0, none⟩) (xs.length + 1) cap)) V') : o.wp Try.prog A V K Q := by
  obtain ⟨i0, hi0, hz0, hz1, hz2⟩ := info_parts Try.infoIntE
  refine wp_append_lies V s x 28 ho base 3 i0 _ 1 8 Try.underlying28 hi0 hz0 hz1 hz2 rfl (by decide) out xs.length (xs.map (Value.int .i64)) hs h1 ⟨nb, 0, none⟩ 1 1 [.int .i64 y] hx rfl (World.news_of_block (cs := #[.int .i64 y]) (t := 3) (fr := (0, 0)) hblk) ?_ (by decide) (by unfold maxLen; omega) (by omega) hb V.heap.size rfl ?_
  · intro u hu
    simp only [List.mem_cons, List.not_mem_nil, or_false] at hu
    subst hu
    rfl
  · intro g cap V' q1 q2 q3 _
    exact hK g cap V' q1 q2 q3
theorem wp_appendO {o : Oper} {A : Act} {K : Act → World → Prop} {Q : Exit → Act → World → Prop} (base : Nat) (V : World) (s x : Operand)
    (ho : o.op = .call { callee := .builtin .append, args := #[s, x], argTypes := #[45, 45] }) (out : Value) (n : Nat) (xs : List Value) (ok ov : Int) (os : ByteArray) (la : Option Addr) (ln lc : Nat) (oh on : Bool) (hs : A.eval s = out) (nb : Nat) (hx : A.eval x = .slice (some ⟨nb, 0, none⟩) 1 1) (hblk : V.heap[nb]? = some (.cells #[.int .i64 ok, .string os, .int .i64 ov, .slice la ln lc, .bool oh, .bool on] 49))
    (h1 : V.ownsRow base 49 6 out n xs) (hb : base ≤ V.heap.size) (hl : n ≤ 400000)
    (hK : ∀ g cap V', V'.ownsRow base 49 6 (.slice (some ⟨g, 0, none⟩) (n + 1) cap) (n + 1) (xs ++ [.int .i64 ok, .string os, .int .i64 ov, .slice la ln lc, .bool oh, .bool on]) → V.grownBy V' out.ownBlock → (out.ownBlock = some g ∨ g = V.heap.size) → K (A.put o.dst (.slice (some ⟨g, 0, none⟩) (n + 1) cap)) V') : o.wp Try.prog A V K Q := by
  obtain ⟨i0, hi0, hz0, hz1, hz2⟩ := info_parts Try.infoOpE
  refine wp_append_lies V s x 45 ho base 49 i0 _ 6 64 Try.underlying45 hi0 hz0 hz1 hz2 rfl (by decide) out n xs hs h1 ⟨nb, 0, none⟩ 1 1 [.int .i64 ok, .string os, .int .i64 ov, .slice la ln lc, .bool oh, .bool on] hx rfl (World.news_of_block (cs := #[.int .i64 ok, .string os, .int .i64 ov, .slice la ln lc, .bool oh, .bool on]) (t := 49) (fr := (0, 0)) hblk) ?_ (by decide) (by unfold maxLen; omega) (by omega) hb V.heap.size rfl ?_
  · intro u hu
    simp only [List.mem_cons, List.not_mem_nil, or_false] at hu
    rcases hu with rfl | rfl | rfl | rfl | rfl | rfl <;> rfl
  · intro g cap V' q1 q2 q3 _
    exact hK g cap V' q1 q2 q3
theorem below_drew (w : World) : Below w.heap.size w w.drew := ⟨rfl, rfl, rfl, Nat.le_refl _, fun _ _ => rfl⟩
set_option maxHeartbeats 16000000 in
set_option maxRecDepth 100000 in
theorem serial_is (w : World) (v : Value) (l : List MTxn) (h : TxnsIn Any w v l) (hl : l.length ≤ 40) (hG : Good l) :
    Calls Try.prog 23 #[v] w fun e w' => SerPost w l.length e w' := by
  obtain ⟨i0, hi0, hz0, hz1, hz2⟩ := info_parts Try.infoTxnE
  obtain ⟨i1, hi1, hz3, hz4, hz5⟩ := info_parts Try.infoOpE
  obtain ⟨i2, hi2, hz6, hz7, hz8⟩ := info_parts Try.infoIntE
  have HI0 := hid hi0
  have HZ0 := hid hz0
  have HZ1 := hid hz1
  have HZ2 := hid hz2
  have HI1 := hid hi1
  have HZ3 := hid hz3
  have HZ4 := hid hz4
  have HZ5 := hid hz5
  have HI2 := hid hi2
  have HZ6 := hid hz6
  have HZ7 := hid hz7
  have HZ8 := hid hz8
  clear hi0 hz0 hz1 hz2 hi1 hz3 hz4 hz5 hi2 hz6 hz7 hz8
  obtain ⟨a1, c1, rfl, l1, k1⟩ := RowsIn.cells h (by omega)
  have HC := hid k1
  have HG := hid hG
  have hmm := @run_makeMap Try.prog
  have hli : (l.length : Int) ≤ 40 := by omega
  clear h k1 hG l1
  go_enter Try.func23, Try.ntmps23
  go_wp2_with fail
  have ST := hid (OutS.start w)
  obtain ⟨mb, hmb⟩ : ∃ mb, w.heap.size = mb := ⟨_, rfl⟩
  go_loopg [4, 5, 6, 7, 8, 10, 14] l.length (fun gg out nn _ _ _ _ i wr => ∃ k n : Nat, k ≤ l.length ∧ l.length - k ≤ gg ∧ i = .int .i64 k ∧ nn = .int .i64 n ∧ Aside (OutS w w.heap.size out n k wr))
  case atStart => exact ⟨0, 0, Nat.zero_le _, by omega, rfl, rfl, ST.out⟩
  case round =>
    obtain ⟨k, n, hk, hgk, rfl, rfl, OR⟩ := hrel
    clear ST hmb
    have hnum := OR.out.num
    have BR := hid OR.out.below
    obtain ⟨oua, ouc, rfl⟩ := OR.out.slice
    by_cases hlt : k < l.length
    · have hlti : (k : Int) < l.length := by omega
      obtain ⟨b, o, cs, rfl, hbl, _, ⟨ov, hcs, hops⟩, hcell⟩ := HC.out k hlt
      subst hcs
      obtain ⟨oa, oc, hov, hol, hoc⟩ := id hops
      subst hov
      have hmem : l.getD k default ∈ l := by simp [List.getD, List.getElem?_eq_getElem hlt]
      have d0 := (BR.out.cell (p := ⟨b, o + k * 5 + 0, none⟩) hbl).trans (hcell 0 _ rfl)
      have d1 := (BR.out.cell (p := ⟨b, o + k * 5 + 1, none⟩) hbl).trans (hcell 1 _ rfl)
      have d2 := (BR.out.cell (p := ⟨b, o + k * 5 + 2, none⟩) hbl).trans (hcell 2 _ rfl)
      have d3 := (BR.out.cell (p := ⟨b, o + k * 5 + 3, none⟩) hbl).trans (hcell 3 _ rfl)
      have d4 := (BR.out.cell (p := ⟨b, o + k * 5 + 4, none⟩) hbl).trans (hcell 4 _ rfl)
      rw [Nat.add_zero] at d0
      have hten : (l.getD k default).ops.length ≤ 10 := HG.out.ten _ hmem
      have HOK : Hid (∀ o ∈ (l.getD k default).ops, o.key.size ≤ 281474976710656) := fun o ho => (HG.out.ok _ hmem o ho).1
      have HOC := hid hoc
      obtain ⟨T, hT⟩ : ∃ T, (l.getD k default).ops = T := ⟨_, rfl⟩
      rw [hT] at d4 hten HOK HOC
      generalize (l.getD k default).proc = xp at d0
      generalize (l.getD k default).state = st at d1
      generalize (l.getD k default).since = xf at d2
      generalize (l.getD k default).till = xt at d3
      clear hcell hops hoc hmem hT
      have hw2 : IntKind.i64.wrap (2 * (k : Int)) = 2 * (k : Int) := by rw [IntKind.wrap_i64]; omega
      have hw3 : IntKind.i64.wrap (2 * (k : Int) + 1) = 2 * (k : Int) + 1 := by rw [IntKind.wrap_i64]; omega
      go_upto_region 8 with fail
      have O1 := hid (OR.out.later (below_box wr (.cells #[.int .i64 xp, .int .i64 st, .int .i64 xf, .int .i64 xt, .slice oa T.length oc] 47)))
      have X1 : Hid ((wr.alloc (.cells #[.int .i64 xp, .int .i64 st, .int .i64 xf, .int .i64 xt, .slice oa T.length oc] 47)).heap[wr.heap.size]? = some (.cells #[.int .i64 xp, .int .i64 st, .int .i64 xf, .int .i64 xt, .slice oa T.length oc] 47)) := heap_alloc_new wr _
      have S1 : Hid ((wr.alloc (.cells #[.int .i64 xp, .int .i64 st, .int .i64 xf, .int .i64 xt, .slice oa T.length oc] 47)).heap.size = wr.heap.size + 1) := alloc_size _ _
      clear OR BR d0 d1 d2 d3 d4 hw2 hw3
      generalize wr.alloc (.cells #[.int .i64 xp, .int .i64 st, .int .i64 xf, .int .i64 xt, .slice oa T.length oc] 47) = W1 at *
      generalize wr.heap.size = xb at *
      have I2 := hid (O1.out.begin (2 * (k : Int)) (2 * (k : Int) + 1))
      have X2 : Hid ((W1.alloc (.cells #[.int .i64 0, .int .i64 1, .int .i64 (2 * (k : Int)), .int .i64 (2 * (k : Int) + 1), .slice none 0 0] 47)).heap[xb]? = some (.cells #[.int .i64 xp, .int .i64 st, .int .i64 xf, .int .i64 xt, .slice oa T.length oc] 47)) := by show _ = _; rw [alloc_at, if_neg (by have := blt X1.out; omega)]; exact X1.out
      rw [show W1.heap.size = xb + 1 from S1.out] at I2
      clear O1 X1
      generalize W1.alloc (.cells #[.int .i64 0, .int .i64 1, .int .i64 (2 * (k : Int)), .int .i64 (2 * (k : Int) + 1), .slice none 0 0] 47) = W2 at *
      clear S1
      have x4 : W2.cell? ⟨xb, 4, none⟩ = some (.slice oa T.length oc) := Lib.cell_of_heap X2.out 4
      clear X2
      generalize xb + 1 = yb at *
      go_wp2_with fail
      have hTi : (T.length : Int) ≤ 10 := by omega
      clear x4
      go_loopg [5, 10, 28] T.length (fun gg nn _ i wi => ∃ j n : Nat, j ≤ T.length ∧ T.length - j ≤ gg ∧ i = .int .i64 j ∧ nn = .int .i64 n ∧ Aside (InS w w.heap.size yb (.slice oua k ouc) k (2 * (k : Int)) (2 * (k : Int) + 1) n j wi))
      case atStart => exact ⟨0, n, Nat.zero_le _, by omega, rfl, rfl, I2.out⟩
      case round =>
        obtain ⟨j, m, hj, hgj, rfl, rfl, IJ⟩ := hrel
        have hmn := IJ.out.num
        have BJ := hid IJ.out.below
        clear I2
        by_cases hjl : j < T.length
        · have hjli : (j : Int) < T.length := by omega
          obtain ⟨ob, oo, rfl, _, hcs⟩ := HOC.out (by omega)
          obtain ⟨cs, _, ⟨lv, hcse, hli2⟩, hcell⟩ := hcs j hjl
          subst hcse
          obtain ⟨la, lc, rfl, _⟩ := id hli2
          have hobl := World.block_lt_of_cell? _ _ (hcell 0 _ rfl)
          have x0 := (BJ.out.cell (p := ⟨ob, oo + j * 6 + 0, none⟩) hobl).trans (hcell 0 _ rfl)
          have x1 := (BJ.out.cell (p := ⟨ob, oo + j * 6 + 1, none⟩) hobl).trans (hcell 1 _ rfl)
          have x2 := (BJ.out.cell (p := ⟨ob, oo + j * 6 + 2, none⟩) hobl).trans (hcell 2 _ rfl)
          have x3 := (BJ.out.cell (p := ⟨ob, oo + j * 6 + 3, none⟩) hobl).trans (hcell 3 _ rfl)
          have x4 := (BJ.out.cell (p := ⟨ob, oo + j * 6 + 4, none⟩) hobl).trans (hcell 4 _ rfl)
          have x5 := (BJ.out.cell (p := ⟨ob, oo + j * 6 + 5, none⟩) hobl).trans (hcell 5 _ rfl)
          rw [Nat.add_zero] at x0
          have HKS : Hid ((T.getD j default).key.size ≤ 281474976710656) := HOK.out _ (by simp [List.getD, List.getElem?_eq_getElem hjl])
          obtain ⟨O, hO⟩ : ∃ O, T.getD j default = O := ⟨_, rfl⟩
          rw [hO] at x0 x1 x2 x3 x4 x5 HKS
          obtain ⟨ok, os, ov, ol, oh, on⟩ := O
          simp only [MOp.kind, MOp.key, MOp.value, MOp.list, MOp.has, MOp.nl] at x0 x1 x2 x3 x4 x5 HKS
          clear hcell hli2 hcs hO BJ
          go_upto_region 11 with fail
          have I3 := hid (IJ.out.later (below_box wr (.cells #[.int .i64 ok, .string os, .int .i64 ov, .slice la ol.length lc, .bool oh, .bool on] 49)))
          have OX : Hid ((wr.alloc (.cells #[.int .i64 ok, .string os, .int .i64 ov, .slice la ol.length lc, .bool oh, .bool on] 49)).heap[wr.heap.size]? = some (.cells #[.int .i64 ok, .string os, .int .i64 ov, .slice la ol.length lc, .bool oh, .bool on] 49)) := heap_alloc_new wr _
          clear IJ x0 x1 x2 x3 x4 x5 hobl
          generalize wr.alloc (.cells #[.int .i64 ok, .string os, .int .i64 ov, .slice la ol.length lc, .bool oh, .bool on] 49) = W3 at *
          generalize wr.heap.size = bb at *
          have y0 : W3.cell? ⟨bb, 0, none⟩ = some (.int .i64 ok) := Lib.cell_of_heap OX.out 0
          have y1 : W3.cell? ⟨bb, 1, none⟩ = some (.string os) := Lib.cell_of_heap OX.out 1
          by_cases hk1 : ok = 1
          · subst hk1
            have hkb : ((1 : Int) == (1 : Int)) = true := rfl
            have hwm : IntKind.i64.wrap ((m : Int) + 1) = (m : Int) + 1 := by rw [IntKind.wrap_i64]; omega
            go_upto_region 14 with fail
            obtain ⟨P, D, m', rT, L, opsv, rO, O, h1, h2, h3, h4, h5, h6⟩ := I3.out
            obtain ⟨pa, pc, rfl⟩ := own_slice h1.ops.own
            have MYH := hid h1
            have PIH := hid h2
            have HL := hid h3
            have HM := hid h4
            have HO := hid h5
            have BO : Hid (Below w.heap.size w W3) := h6
            have hks : os.size ≤ maxLen := by have := HKS.out; unfold maxLen; omega
            have hgl : (apV os (ntL L O)).length ≤ 1000 := by have q1 := apV_len os (ntL L O); have q2 := h2.nlen; omega
            have hml : m' < maxLen := by unfold maxLen; omega
            have LK : Hid (∀ V, Below W3.heap.size W3 V → (Instr.lookup 103 (.map (some w.heap.size)) (.string os) false).run Try.prog V = .ok (D os) V) := fun V hb => (MYH.out.later hb).mi.dm.look os hks
            have OW : Hid (∀ V, Below W3.heap.size W3 V → V.ownsRow w.heap.size 3 1 (D os) (apV os (ntL L O)).length ((apV os (ntL L O)).map (Value.int .i64))) := fun V hb => (MYH.out.later hb).mi.dm.own os
            have OP : Hid (∀ V, Below W3.heap.size W3 V → V.ownsRow w.heap.size 49 6 (.slice pa O.length pc) O.length rO.flatten ∧ V.cell? ⟨yb, 4, none⟩ = some (.slice pa O.length pc)) := fun V hb => ⟨(MYH.out.later hb).ops.own, Lib.cell_of_heap (MYH.out.later hb).box 4⟩
            have OBX : Hid (∀ V, Below W3.heap.size W3 V → V.heap[bb]? = W3.heap[bb]?) := fun V hb => hb.block bb (blt OX.out)
            have NDB : Hid ((D os).ownBlock ≠ some bb) := fun c => by
              obtain ⟨_, _, cs, q⟩ := h1.mi.dm.cells c
              rw [OX.out] at q
              injection q with q
              injection q with _ q
              exact absurd q (by decide)
            have NMB : Hid (bb ≠ w.heap.size) := fun c => by
              have q := OX.out
              rw [c] at q
              exact h1.mi.dm.noCells q
            clear I3 h1 h2 h3 h4 h5 h6
            refine wp_region_twot Try.mixedOrders (by kernel_rfl) 8 9 10 (fun i => match i with | 8 => some 9 | 9 => some 10 | _ => none) (by decide) (by decide) (fun b1 b2 V => (b1 = false → Below W3.heap.size W3 V) ∧ (b2 = false → V.cell? ⟨bb, 1, none⟩ = some (.string os))) ⟨fun _ => below_drew W3, fun _ => y1⟩ (fun val => { tmps := #[_, _, _, _, _, _, _, _, _, _, _, _, _, _, _, _, _, _, _, _, _, _, _, _, _, _, _, _, _, _, _, _, _, _, _, _, _, _, val 0, val 1, val 2, val 3, val 4, val 5, val 6, val 7, val 8, val 9, _, _, _, _, _, _, _, _, _, _, _, _, _, _, _, _, _, _, _, _, _, _, _, _, _, _, _, _, _, _, _, _, _, _, _], defers := [] }) (fun i y V => match i with | 0 => y = .map (some w.heap.size) | 1 => y = .pointer (some ⟨bb, 1, none⟩) | 2 => y = .string os | 3 => y = .map (some w.heap.size) | 4 => y = .pointer (some ⟨bb, 1, none⟩) | 5 => y = .string os | 6 => y = D os | 7 => y = .int .i64 ((m : Int) + 1) | 8 => ∃ nb, W3.heap.size ≤ nb ∧ y = .slice (some ⟨nb, 0, none⟩) 1 1 ∧ V.heap[nb]? = some (.cells #[.int .i64 ((m : Int) + 1)] 3) | 9 => ∃ g3 cap, y = .slice (some ⟨g3, 0, none⟩) ((apV os (ntL L O)).length + 1) cap ∧ V.ownsRow w.heap.size 3 1 (.slice (some ⟨g3, 0, none⟩) ((apV os (ntL L O)).length + 1) cap) ((apV os (ntL L O)).length + 1) ((apV os (ntL L O)).map (Value.int .i64) ++ [.int .i64 ((m : Int) + 1)]) ∧ (∀ b, b < W3.heap.size → (D os).ownBlock ≠ some b → V.heap[b]? = W3.heap[b]?) ∧ ((D os).ownBlock = some g3 ∨ W3.heap.size ≤ g3) ∧ W3.heap.size ≤ V.heap.size ∧ Below w.heap.size W3 V | 10 => (∃ D', MY w.heap.size w.heap.size yb P D' V (m' + 1) (.slice oua k ouc) rT L (fun s => if s = os then apV os (ntL L O) ++ [((m : Int) + 1)] else apV s (ntL L O)) (.slice pa O.length pc) rO O (2 * (k : Int)) (2 * (k : Int) + 1) ∧ V.heap[bb]? = W3.heap[bb]? ∧ Below w.heap.size W3 V) | _ => True) (fun i => match i with | 0 => u38 | 1 => u39 | 2 => u40 | 3 => u41 | 4 => u42 | 5 => u43 | 6 => u44 | 7 => u45 | 8 => u46 | 9 => u47 | 10 => undef | _ => undef) rfl _ rfl ⟨?_, ?_, ?_, ?_, ?_, ?_, ?_, ?_, ?_, ?_, ?_, trivial⟩ ?_
            · refine ⟨rfl, fun _ _ => rfl, fun val V b1 b2 hg n1 n2 a1 _ hd => ?_⟩
              refine does3_value (v := .map (some w.heap.size)) hg rfl rfl ?_ rfl
              simp [execOp, Act.eval, go_sem]
            · refine ⟨rfl, fun _ _ => rfl, fun val V b1 b2 hg n1 n2 a1 _ hd => ?_⟩
              refine does3_value (v := .pointer (some ⟨bb, 1, none⟩)) hg rfl rfl ?_ rfl
              simp [execOp, Act.eval, go_sem]
            · refine ⟨rfl, fun _ _ => rfl, fun val V b1 b2 hg n1 n2 a1 _ hd => ?_⟩
              have h1 : val 1 = .pointer (some ⟨bb, 1, none⟩) := depsT_get hd 1 (by kernel_rfl) (.inl rfl)
              have hc := hg.2 (n2 (by kernel_rfl))
              refine does3_value (v := .string os) hg rfl rfl ?_ rfl
              simp [execOp, Act.eval, go_sem, h1, hc]
            · refine ⟨rfl, fun _ _ => rfl, fun val V b1 b2 hg n1 n2 a1 _ hd => ?_⟩
              refine does3_value (v := .map (some w.heap.size)) hg rfl rfl ?_ rfl
              simp [execOp, Act.eval, go_sem]
            · refine ⟨rfl, fun _ _ => rfl, fun val V b1 b2 hg n1 n2 a1 _ hd => ?_⟩
              refine does3_value (v := .pointer (some ⟨bb, 1, none⟩)) hg rfl rfl ?_ rfl
              simp [execOp, Act.eval, go_sem]
            · refine ⟨rfl, fun _ _ => rfl, fun val V b1 b2 hg n1 n2 a1 _ hd => ?_⟩
              have h4 : val 4 = .pointer (some ⟨bb, 1, none⟩) := depsT_get hd 4 (by kernel_rfl) (.inl rfl)
              have hc := hg.2 (n2 (by kernel_rfl))
              refine does3_value (v := .string os) hg rfl rfl ?_ rfl
              simp [execOp, Act.eval, go_sem, h4, hc]
            · refine ⟨rfl, fun _ _ => rfl, fun val V b1 b2 hg n1 n2 a1 _ hd => ?_⟩
              have h3 : val 3 = .map (some w.heap.size) := depsT_get hd 3 (by kernel_rfl) (.inl rfl)
              have h5 : val 5 = .string os := depsT_get hd 5 (by kernel_rfl) (.inl rfl)
              have hc := LK.out V (hg.1 (n1 (by kernel_rfl)))
              refine does3_value (v := D os) hg rfl rfl ?_ rfl
              simp [execOp, Act.eval, go_sem, h3, h5, hc, Result.andThen]
            · refine ⟨rfl, fun _ _ => rfl, fun val V b1 b2 hg n1 n2 a1 _ hd => ?_⟩
              refine does3_value (v := .int .i64 ((m : Int) + 1)) hg rfl rfl ?_ rfl
              simp [execOp, Act.eval, go_sem]
            · refine ⟨rfl, fun _ _ => rfl, fun val V b1 b2 hg n1 n2 a1 _ hd => ?_⟩
              have h7 : val 7 = .int .i64 ((m : Int) + 1) := depsT_get hd 7 (by kernel_rfl) (.inl rfl)
              have hb1 := n1 (by kernel_rfl)
              have hB := hg.1 hb1
              refine does3_grown (v := .slice (some ⟨V.heap.size, 0, none⟩) 1 1) (w' := V.alloc (.cells #[.int .i64 ((m : Int) + 1)] 3)) ?_ ⟨V.heap.size, hB.size, rfl, heap_alloc_new V _⟩ ⟨fun _ => hB.trans ((below_box V _).mono hB.size), fun c => Lib.cell?_alloc_some _ (hg.2 (by simpa using c))⟩ ?_
              · simp [execOp, Act.eval, go_sem, h7]
              · intro j y hj hne hnd ht hr
                match j, hj, hne, hnd, ht, hr with
                | 0, _, _, _, _, hr => exact hr
                | 1, _, _, _, _, hr => exact hr
                | 2, _, _, _, _, hr => exact hr
                | 3, _, _, _, _, hr => exact hr
                | 4, _, _, _, _, hr => exact hr
                | 5, _, _, _, _, hr => exact hr
                | 6, _, _, _, _, hr => exact hr
                | 7, _, _, _, _, hr => exact hr
                | 8, _, hne, _, _, _ => exact absurd rfl hne
                | 9, _, _, hnd, _, _ => exact absurd hnd (by decide +kernel)
                | 10, _, _, hnd, _, _ => exact absurd hnd (by decide +kernel)
                | j + 11, hj, _, _, _, _ => exact absurd hj (by simp)
            · refine ⟨rfl, fun _ _ => rfl, fun val V b1 b2 hg n1 n2 a1 _ hd => ?_⟩
              have h6 : val 6 = D os := depsT_get hd 6 (by kernel_rfl) (.inl rfl)
              obtain ⟨nb, q1, q2, q3⟩ := depsT_get hd 8 (by kernel_rfl) (.inr rfl)
              have hB := hg.1 (n1 (by kernel_rfl))
              intro K hK
              refine wp_appendI w.heap.size V _ _ rfl (D os) (apV os (ntL L O)) ((m : Int) + 1) (show val 6 = _ from h6) nb (show val 8 = _ from q2) q3 (OW.out V hB) (Nat.le_trans BO.out.size hB.size) (by omega) (fun g3 cap V' ho hgr hat => ?_)
              refine hK _ V' ⟨g3, cap, rfl, ho, fun b hb hn => (hgr.block b (Nat.lt_of_lt_of_le hb hB.size) (fun e => hn e.symm)).trans (hB.block b hb), hat.imp id (fun e => by rw [e]; exact hB.size), Nat.le_trans hB.size hgr.size, (hB.mono BO.out.size).trans (below_gr (OW.out V hB) (Nat.le_trans BO.out.size hB.size) hgr)⟩ ⟨fun c => (by simp at c), fun c => ?_⟩ ?_
              · refine (World.cell?_of_block (a := ⟨bb, 1, none⟩) (hgr.block bb (Nat.lt_of_lt_of_le (blt OX.out) hB.size) (fun e => NDB.out e.symm))).trans (hg.2 (by simpa using c))
              · intro j y hj hne hnd ht hr
                match j, hj, hne, hnd, ht, hr with
                | 0, _, _, _, _, hr => exact hr
                | 1, _, _, _, _, hr => exact hr
                | 2, _, _, _, _, hr => exact hr
                | 3, _, _, _, _, hr => exact hr
                | 4, _, _, _, _, hr => exact hr
                | 5, _, _, _, _, hr => exact hr
                | 6, _, _, _, _, hr => exact hr
                | 7, _, _, _, _, hr => exact hr
                | 8, _, _, _, ht, _ => exact absurd rfl (ht 9 rfl).1
                | 9, _, hne, _, _, _ => exact absurd rfl hne
                | 10, _, _, hnd, _, _ => exact absurd hnd (by decide +kernel)
                | j + 11, hj, _, _, _, _ => exact absurd hj (by simp)
            · refine ⟨rfl, fun _ _ => rfl, fun val V b1 b2 hg n1 n2 a1 _ hd => ?_⟩
              have h0 : val 0 = .map (some w.heap.size) := depsT_get hd 0 (by kernel_rfl) (.inl rfl)
              have h2 : val 2 = .string os := depsT_get hd 2 (by kernel_rfl) (.inl rfl)
              obtain ⟨g3, cap, e, ho, hkp, hat, hz, hbb⟩ := depsT_get hd 9 (by kernel_rfl) (.inr rfl)
              obtain ⟨w4, D', r1, r2, r3⟩ := MYH.out.mi.dm.put hml os hks ((m : Int) + 1) (w3 := V) (fun b hb => (MYH.out.mi.plt b hb).2) ho hkp hat hz
              have kp : ∀ b, b < W3.heap.size → (D os).ownBlock ≠ some b → b ≠ w.heap.size → w4.heap[b]? = W3.heap[b]? := fun b hb h1 h2 => (r3.block b (Nat.lt_of_lt_of_le hb hz) (fun c => h2 (by injection c))).trans (hkp b hb h1)
              refine does3_skip (w' := w4) ?_ ⟨D', MYH.out.put os (Nat.le_trans hz r3.size) r2 kp, kp bb (blt OX.out) NDB.out NMB.out, hbb.trans ⟨r3.os, r3.tape, r3.output, r3.size, fun b hb => r3.block b (Nat.lt_of_lt_of_le hb (Nat.le_trans BO.out.size hz)) (fun c => by injection c with c; omega)⟩⟩ ⟨fun c => (by rw [a1 (by kernel_rfl)] at c; cases c), fun c => (by simp at c)⟩ ?_
              · simp [execOp, Act.eval, go_sem, h0, h2, e, r1, Result.andThen]
              · intro j y hj hne hnd ht hr
                match j, hj, hne, hnd, ht, hr with
                | 0, _, _, _, _, hr => exact hr
                | 1, _, _, _, _, hr => exact hr
                | 2, _, _, _, _, hr => exact hr
                | 3, _, _, _, _, hr => exact hr
                | 4, _, _, _, _, hr => exact hr
                | 5, _, _, _, _, hr => exact hr
                | 6, _, _, _, _, hr => exact hr
                | 7, _, _, _, _, hr => exact hr
                | 8, _, _, _, ht, _ => exact absurd (ht 9 rfl).2 (by decide +kernel)
                | 9, _, _, _, ht, _ => exact absurd rfl (ht 10 rfl).1
                | 10, _, hne, _, _, _ => exact absurd rfl hne
                | j + 11, hj, _, _, _, _ => exact absurd hj (by simp)
            intro val W4 _ hR
            obtain ⟨D', my4, bx4, bw4⟩ := hR 10 (by decide) rfl
            have MY4 := hid my4
            have B4 : Hid (Below w.heap.size w W4) := BO.out.trans bw4
            have bx5 := bx4.trans OX.out
            have c0 : W4.cell? ⟨bb, 0, none⟩ = some (.int .i64 1) := Lib.cell_of_heap bx5 0
            have c1 : W4.cell? ⟨bb, 1, none⟩ = some (.string os) := Lib.cell_of_heap bx5 1
            have p4 : W4.cell? ⟨yb, 4, none⟩ = some (.slice pa O.length pc) := Lib.cell_of_heap my4.box 4
            have OXA : Hid ((W4.alloc (.cells #[.int .i64 1, .string os, .int .i64 ((m : Int) + 1), .slice none 0 0, .bool false, .bool false] 49)).ownsRow w.heap.size 49 6 (.slice pa O.length pc) O.length rO.flatten) := own_same my4.ops.own (fun g hg => (below_box W4 _).block g (own_block my4.ops.own hg).2.1)
            have NEW : Hid (∀ q u, ([.int .i64 1, .string os, .int .i64 ((m : Int) + 1), .slice none 0 0, .bool false, .bool false] : List Value)[q]? = some u → (W4.alloc (.cells #[.int .i64 1, .string os, .int .i64 ((m : Int) + 1), .slice none 0 0, .bool false, .bool false] 49)).cell? ((⟨W4.heap.size, 0, none⟩ : Addr).add q) = some u) := World.news_of_block (cs := #[.int .i64 1, .string os, .int .i64 ((m : Int) + 1), .slice none 0 0, .bool false, .bool false]) (t := 49) (fr := (0, 0)) (heap_alloc_new W4 _)
            have ONE : Hid (∀ u ∈ ([.int .i64 1, .string os, .int .i64 ((m : Int) + 1), .slice none 0 0, .bool false, .bool false] : List Value), u.oneCell' = true) := by
              intro u hu
              simp only [List.mem_cons, List.not_mem_nil, or_false] at hu
              rcases hu with rfl | rfl | rfl | rfl | rfl | rfl <;> rfl
            have SZB : Hid (w.heap.size ≤ (W4.alloc (.cells #[.int .i64 1, .string os, .int .i64 ((m : Int) + 1), .slice none 0 0, .bool false, .bool false] 49)).heap.size) := by show _ ≤ _; rw [alloc_size]; have := B4.out.size; omega
            have YBX : Hid (∀ V, (W4.alloc (.cells #[.int .i64 1, .string os, .int .i64 ((m : Int) + 1), .slice none 0 0, .bool false, .bool false] 49)).grownBy V (Value.slice pa O.length pc).ownBlock → V.heap[yb]? = some (.cells #[.int .i64 0, .int .i64 1, .int .i64 (2 * (k : Int)), .int .i64 (2 * (k : Int) + 1), .slice pa O.length pc] 47)) := fun V hg => by
              refine (hg.block yb (Nat.lt_of_lt_of_le (blt my4.box) (below_box W4 _).size) (fun e => ?_)).trans (((below_box W4 _).block yb (blt my4.box)).trans my4.box)
              obtain ⟨_, _, cs, q⟩ := own_block my4.ops.own e.symm
              rw [my4.box] at q
              injection q with q
              injection q with _ q
              exact absurd q (by decide)
            have hOl : O.length ≤ 10 := by have := HO.out; omega
            clear hR my4 bx4 bw4 bx5 y0 y1 LK OW OP OBX NDB NMB MYH BO
            go_wp2_with (at_builtin; refine wpList_append_lies _ rfl _ _ 45 rfl w.heap.size 49 i1 _ 6 64 Try.underlying45 HI1.out HZ3.out HZ4.out HZ5.out rfl (by decide) (.slice pa O.length pc) O.length rO.flatten rfl OXA.out ⟨W4.heap.size, 0, none⟩ 1 1 [.int .i64 1, .string os, .int .i64 ((m : Int) + 1), .slice none 0 0, .bool false, .bool false] rfl rfl NEW.out ONE.out (by decide) (by unfold maxLen; omega) (by omega) SZB.out (W4.heap.size + 1) (alloc_size _ _) ?_; intro g8 cap8 w8 hown8 hgrow8 hat8 hglt8; have O8 := hid hown8; have G8 := hid hgrow8; have A8 := hid hat8; have q4 : w8.cell? ⟨yb, 4, none⟩ = some (.slice pa O.length pc) := Lib.cell_of_heap (YBX.out w8 hgrow8) 4; have f4 : w8.frozen? ⟨yb, 4, none⟩ = false := Lib.frozen_of_heap (YBX.out w8 hgrow8) 4; clear hown8 hgrow8 hat8 hglt8)
            have IN8 : Hid (InS w w.heap.size yb (.slice oua k ouc) k (2 * (k : Int)) (2 * (k : Int) + 1) (m + 1) (j + 1) (w8.setCell ⟨yb, 4, none⟩ (.slice (some ⟨g8, 0, none⟩) (O.length + 1) cap8))) := by
              have hL := HL.out
              have q := app_s (w' := (W4.alloc (.cells #[.int .i64 1, .string os, .int .i64 ((m : Int) + 1), .slice none 0 0, .bool false, .bool false] 49))) (w3 := w8) (g3 := g8) (cap := cap8) (j := j) (key := os) MY4.out PIH.out (by have := HL.out; omega) (by have := HO.out; omega) HKS.out (by have := HM.out; omega) HO.out B4.out (below_box W4 _) O8.out G8.out (A8.out.imp id (fun e => by rw [e, alloc_size]))
              rw [show L.length = k from hL] at q
              exact q
            clear MY4 PIH HL HM HO O8 G8 A8 YBX
            go_roundg (T.length - (j + 1))
            case measure => omega
            case rel => exact ⟨j + 1, m + 1, by omega, by omega, by go_num, by go_num, IN8.out⟩
          · have hkb1 : (ok == (1 : Int)) = false := by simpa using hk1
            by_cases hk2 : ok = 2
            · subst hk2
              have hkb2 : ((2 : Int) == (2 : Int)) = true := rfl
              go_upto_region 17 with fail
              obtain ⟨P, D, m', rT, L, opsv, rO, O, h1, h2, h3, h4, h5, h6⟩ := I3.out
              obtain ⟨pa, pc, rfl⟩ := own_slice h1.ops.own
              have MYH := hid h1
              have PIH := hid h2
              have HL := hid h3
              have HM := hid h4
              have HO := hid h5
              have BO : Hid (Below w.heap.size w W3) := h6
              have hks : os.size ≤ maxLen := by have := HKS.out; unfold maxLen; omega
              have hgl : (apV os (ntL L O)).length ≤ 1000 := by have q1 := apV_len os (ntL L O); have q2 := h2.nlen; omega
              have hml : m' < maxLen := by unfold maxLen; omega
              have LK : Hid (∀ V, Below W3.heap.size W3 V → (Instr.lookup 103 (.map (some w.heap.size)) (.string os) false).run Try.prog V = .ok (D os) V) := fun V hb => (MYH.out.later hb).mi.dm.look os hks
              have OW : Hid (∀ V, Below W3.heap.size W3 V → V.ownsRow w.heap.size 3 1 (D os) (apV os (ntL L O)).length ((apV os (ntL L O)).map (Value.int .i64))) := fun V hb => (MYH.out.later hb).mi.dm.own os
              have OP : Hid (∀ V, Below W3.heap.size W3 V → V.ownsRow w.heap.size 49 6 (.slice pa O.length pc) O.length rO.flatten ∧ V.cell? ⟨yb, 4, none⟩ = some (.slice pa O.length pc)) := fun V hb => ⟨(MYH.out.later hb).ops.own, Lib.cell_of_heap (MYH.out.later hb).box 4⟩
              have OBX : Hid (∀ V, Below W3.heap.size W3 V → V.heap[bb]? = W3.heap[bb]?) := fun V hb => hb.block bb (blt OX.out)
              have NDB : Hid ((D os).ownBlock ≠ some bb) := fun c => by
                obtain ⟨_, _, cs, q⟩ := h1.mi.dm.cells c
                rw [OX.out] at q
                injection q with q
                injection q with _ q
                exact absurd q (by decide)
              have NMB : Hid (bb ≠ w.heap.size) := fun c => by
                have q := OX.out
                rw [c] at q
                exact h1.mi.dm.noCells q
              clear I3 h1 h2 h3 h4 h5 h6
              refine wp_region_twot Try.mixedOrders (by kernel_rfl) 12 13 15 (fun i => match i with | 10 => some 11 | 11 => some 12 | 12 => some 13 | 13 => some 15 | _ => none) (by decide) (by decide) (fun b1 b2 V => b1 = false → Below W3.heap.size W3 V) (fun _ => below_drew W3) (fun val => { tmps := #[_, _, _, _, _, _, _, _, _, _, _, _, _, _, _, _, _, _, _, _, _, _, _, _, _, _, _, _, _, _, _, _, _, _, _, _, _, _, _, _, _, _, _, _, _, _, _, _, _, _, _, _, _, _, _, _, _, _, _, _, _, val 0, val 1, val 2, val 3, val 4, val 5, val 6, val 7, val 8, val 9, val 10, val 11, val 12, val 13, val 14, _, _, _, _, _, _, _], defers := [] }) (fun i y V => match i with | 0 => y = .pointer (some ⟨yb, 4, none⟩) | 1 => y = .slice pa O.length pc | 2 => y = .pointer (some ⟨bb, 0, none⟩) | 3 => y = .int .i64 2 | 4 => y = .pointer (some ⟨bb, 1, none⟩) | 5 => y = .string os | 6 => y = .map (some w.heap.size) | 7 => y = .pointer (some ⟨bb, 1, none⟩) | 8 => y = .string os | 9 => y = D os | 10 => ∃ la ln lc, y = .slice la ln lc ∧ IntsIn (fun b => W3.heap.size ≤ b ∧ b < V.heap.size) V (.slice la ln lc) (apV os (ntL L O)) | 11 => ∃ la ln lc, y = .agg #[.int .i64 2, .string os, .int .i64 0, .slice la ln lc, .bool true, .bool false] ∧ IntsIn (fun b => W3.heap.size ≤ b ∧ b < V.heap.size) V (.slice la ln lc) (apV os (ntL L O)) | 12 => ∃ nb la ln lc, W3.heap.size ≤ nb ∧ y = .slice (some ⟨nb, 0, none⟩) 1 1 ∧ V.heap[nb]? = some (.cells #[.int .i64 2, .string os, .int .i64 0, .slice la ln lc, .bool true, .bool false] 49) ∧ IntsIn (fun b => W3.heap.size ≤ b ∧ b < V.heap.size) V (.slice la ln lc) (apV os (ntL L O)) | 13 => ∃ V1 la ln lc g3 cap, y = .slice (some ⟨g3, 0, none⟩) (O.length + 1) cap ∧ Below W3.heap.size W3 V1 ∧ IntsIn (fun b => W3.heap.size ≤ b ∧ b < V1.heap.size) V1 (.slice la ln lc) (apV os (ntL L O)) ∧ V.ownsRow w.heap.size 49 6 (.slice (some ⟨g3, 0, none⟩) (O.length + 1) cap) (O.length + 1) (rO.flatten ++ [.int .i64 2, .string os, .int .i64 0, .slice la ln lc, .bool true, .bool false]) ∧ V1.grownBy V (Value.slice pa O.length pc).ownBlock ∧ ((Value.slice pa O.length pc).ownBlock = some g3 ∨ g3 = V1.heap.size) | 14 => y = .pointer (some ⟨yb, 4, none⟩) | 15 => InS w w.heap.size yb (.slice oua k ouc) k (2 * (k : Int)) (2 * (k : Int) + 1) m (j + 1) V | _ => True) (fun i => match i with | 0 => u61 | 1 => u62 | 2 => u63 | 3 => u64 | 4 => u65 | 5 => u66 | 6 => u67 | 7 => u68 | 8 => u69 | 9 => u70 | 10 => u71 | 11 => u72 | 12 => u73 | 13 => u74 | 14 => u75 | 15 => undef | _ => undef) rfl _ rfl ⟨?_, ?_, ?_, ?_, ?_, ?_, ?_, ?_, ?_, ?_, ?_, ?_, ?_, ?_, ?_, ?_, trivial⟩ ?_
              · refine ⟨rfl, fun _ _ => rfl, fun val V b1 b2 hg n1 n2 a1 _ hd => ?_⟩
                refine does3_value (v := .pointer (some ⟨yb, 4, none⟩)) hg rfl rfl ?_ rfl
                simp [execOp, Act.eval, go_sem]
              · refine ⟨rfl, fun _ _ => rfl, fun val V b1 b2 hg n1 n2 a1 _ hd => ?_⟩
                have h0 : val 0 = .pointer (some ⟨yb, 4, none⟩) := depsT_get hd 0 (by kernel_rfl) (.inl rfl)
                have hc := (OP.out V (hg (n1 (by kernel_rfl)))).2
                refine does3_value (v := .slice pa O.length pc) hg rfl rfl ?_ rfl
                simp [execOp, Act.eval, go_sem, h0, hc]
              · refine ⟨rfl, fun _ _ => rfl, fun val V b1 b2 hg n1 n2 a1 _ hd => ?_⟩
                refine does3_value (v := .pointer (some ⟨bb, 0, none⟩)) hg rfl rfl ?_ rfl
                simp [execOp, Act.eval, go_sem]
              · refine ⟨rfl, fun _ _ => rfl, fun val V b1 b2 hg n1 n2 a1 _ hd => ?_⟩
                have h2 : val 2 = .pointer (some ⟨bb, 0, none⟩) := depsT_get hd 2 (by kernel_rfl) (.inl rfl)
                have hc : V.cell? ⟨bb, 0, none⟩ = some (.int .i64 2) := Lib.cell_of_heap ((OBX.out V (hg (n1 (by kernel_rfl)))).trans OX.out) 0
                refine does3_value (v := .int .i64 2) hg rfl rfl ?_ rfl
                simp [execOp, Act.eval, go_sem, h2, hc]
              · refine ⟨rfl, fun _ _ => rfl, fun val V b1 b2 hg n1 n2 a1 _ hd => ?_⟩
                refine does3_value (v := .pointer (some ⟨bb, 1, none⟩)) hg rfl rfl ?_ rfl
                simp [execOp, Act.eval, go_sem]
              · refine ⟨rfl, fun _ _ => rfl, fun val V b1 b2 hg n1 n2 a1 _ hd => ?_⟩
                have h4 : val 4 = .pointer (some ⟨bb, 1, none⟩) := depsT_get hd 4 (by kernel_rfl) (.inl rfl)
                have hc : V.cell? ⟨bb, 1, none⟩ = some (.string os) := Lib.cell_of_heap ((OBX.out V (hg (n1 (by kernel_rfl)))).trans OX.out) 1
                refine does3_value (v := .string os) hg rfl rfl ?_ rfl
                simp [execOp, Act.eval, go_sem, h4, hc]
              · refine ⟨rfl, fun _ _ => rfl, fun val V b1 b2 hg n1 n2 a1 _ hd => ?_⟩
                refine does3_value (v := .map (some w.heap.size)) hg rfl rfl ?_ rfl
                simp [execOp, Act.eval, go_sem]
              · refine ⟨rfl, fun _ _ => rfl, fun val V b1 b2 hg n1 n2 a1 _ hd => ?_⟩
                refine does3_value (v := .pointer (some ⟨bb, 1, none⟩)) hg rfl rfl ?_ rfl
                simp [execOp, Act.eval, go_sem]
              · refine ⟨rfl, fun _ _ => rfl, fun val V b1 b2 hg n1 n2 a1 _ hd => ?_⟩
                have h7 : val 7 = .pointer (some ⟨bb, 1, none⟩) := depsT_get hd 7 (by kernel_rfl) (.inl rfl)
                have hc : V.cell? ⟨bb, 1, none⟩ = some (.string os) := Lib.cell_of_heap ((OBX.out V (hg (n1 (by kernel_rfl)))).trans OX.out) 1
                refine does3_value (v := .string os) hg rfl rfl ?_ rfl
                simp [execOp, Act.eval, go_sem, h7, hc]
              · refine ⟨rfl, fun _ _ => rfl, fun val V b1 b2 hg n1 n2 a1 _ hd => ?_⟩
                have h6 : val 6 = .map (some w.heap.size) := depsT_get hd 6 (by kernel_rfl) (.inl rfl)
                have h8 : val 8 = .string os := depsT_get hd 8 (by kernel_rfl) (.inl rfl)
                have hc := LK.out V (hg (n1 (by kernel_rfl)))
                refine does3_value (v := D os) hg rfl rfl ?_ rfl
                simp [execOp, Act.eval, go_sem, h6, h8, hc, Result.andThen]
              · refine ⟨rfl, fun _ _ => rfl, fun val V b1 b2 hg n1 n2 a1 _ hd => ?_⟩
                have h9 : val 9 = D os := depsT_get hd 9 (by kernel_rfl) (.inl rfl)
                have hB := hg (n1 (by kernel_rfl))
                refine does3_call (fn := 50) (args := #[D os]) ?_ (Tx.cloneInts_any (D os) (apV os (ntL L O)) V ((MYH.out.later hB).mi.dm.ints os (by show (apV os (ntL L O)).length ≤ 100000; omega))) ?_
                · simp [execOp, Act.eval, go_sem, h9]
                · rintro e V' ⟨v', rfl, hi, hb⟩
                  obtain ⟨la, lc, hv, q1, q3⟩ := id hi
                  subst hv
                  refine ⟨_, rfl, ⟨la, _, lc, rfl, la, lc, rfl, q1, fun h0 => ?_⟩, fun c => hB.trans (hb.mono hB.size), ?_⟩
                  · obtain ⟨b, off, e1, e2, e3⟩ := q3 h0
                    exact ⟨b, off, e1, ⟨Nat.le_trans hB.size e2, World.block_lt_of_cell? _ _ (e3 0 h0)⟩, e3⟩
                  · intro j y hj hne hnd ht hr
                    match j, hj, hne, hnd, ht, hr with
                    | 0, _, _, _, _, hr => exact hr
                    | 1, _, _, _, _, hr => exact hr
                    | 2, _, _, _, _, hr => exact hr
                    | 3, _, _, _, _, hr => exact hr
                    | 4, _, _, _, _, hr => exact hr
                    | 5, _, _, _, _, hr => exact hr
                    | 6, _, _, _, _, hr => exact hr
                    | 7, _, _, _, _, hr => exact hr
                    | 8, _, _, _, _, hr => exact hr
                    | 9, _, _, _, _, hr => exact hr
                    | 10, _, hne, _, _, _ => exact absurd rfl hne
                    | 11, _, _, hnd, _, _ => exact absurd hnd (by decide +kernel)
                    | 12, _, _, hnd, _, _ => exact absurd hnd (by decide +kernel)
                    | 13, _, _, hnd, _, _ => exact absurd hnd (by decide +kernel)
                    | 14, _, _, _, _, hr => exact hr
                    | 15, _, _, hnd, _, _ => exact absurd hnd (by decide +kernel)
                    | j + 16, hj, _, _, _, _ => exact absurd hj (by simp)
              · refine ⟨rfl, fun _ _ => rfl, fun val V b1 b2 hg n1 n2 a1 _ hd => ?_⟩
                have h3 : val 3 = .int .i64 2 := depsT_get hd 3 (by kernel_rfl) (.inl rfl)
                have h5 : val 5 = .string os := depsT_get hd 5 (by kernel_rfl) (.inl rfl)
                obtain ⟨la, ln, lc, h10, q2⟩ := depsT_get hd 10 (by kernel_rfl) (.inr rfl)
                refine does3_value (v := .agg #[.int .i64 2, .string os, .int .i64 0, .slice la ln lc, .bool true, .bool false]) hg rfl rfl ?_ ⟨la, ln, lc, rfl, q2⟩
                simp [execOp, Act.eval, go_sem, h3, h5, h10]
              · refine ⟨rfl, fun _ _ => rfl, fun val V b1 b2 hg n1 n2 a1 _ hd => ?_⟩
                obtain ⟨la, ln, lc, h11, q2⟩ := depsT_get hd 11 (by kernel_rfl) (.inr rfl)
                have hB := hg (n1 (by kernel_rfl))
                refine does3_grown (v := .slice (some ⟨V.heap.size, 0, none⟩) 1 1) (w' := V.alloc (.cells #[.int .i64 2, .string os, .int .i64 0, .slice la ln lc, .bool true, .bool false] 49)) ?_ ⟨V.heap.size, la, ln, lc, hB.size, rfl, heap_alloc_new V _, (q2.keep (fun b hb _ => (below_box V _).block b hb.2) (fun b _ hb => ⟨hb.1, Nat.lt_of_lt_of_le hb.2 (below_box V _).size⟩))⟩ (fun _ => hB.trans ((below_box V _).mono hB.size)) ?_
                · simp [execOp, Act.eval, go_sem, h11]
                · intro j y hj hne hnd ht hr
                  match j, hj, hne, hnd, ht, hr with
                  | 0, _, _, _, _, hr => exact hr
                  | 1, _, _, _, _, hr => exact hr
                  | 2, _, _, _, _, hr => exact hr
                  | 3, _, _, _, _, hr => exact hr
                  | 4, _, _, _, _, hr => exact hr
                  | 5, _, _, _, _, hr => exact hr
                  | 6, _, _, _, _, hr => exact hr
                  | 7, _, _, _, _, hr => exact hr
                  | 8, _, _, _, _, hr => exact hr
                  | 9, _, _, _, _, hr => exact hr
                  | 10, _, _, _, ht, _ => exact absurd (ht 11 rfl).2 (by decide +kernel)
                  | 11, _, _, _, ht, _ => exact absurd rfl (ht 12 rfl).1
                  | 12, _, hne, _, _, _ => exact absurd rfl hne
                  | 13, _, _, hnd, _, _ => exact absurd hnd (by decide +kernel)
                  | 14, _, _, _, _, hr => exact hr
                  | 15, _, _, hnd, _, _ => exact absurd hnd (by decide +kernel)
                  | j + 16, hj, _, _, _, _ => exact absurd hj (by simp)
              · refine ⟨rfl, fun _ _ => rfl, fun val V b1 b2 hg n1 n2 a1 _ hd => ?_⟩
                have h1 : val 1 = .slice pa O.length pc := depsT_get hd 1 (by kernel_rfl) (.inl rfl)
                obtain ⟨nb, la, ln, lc, q0, q1, q3, q2⟩ := depsT_get hd 12 (by kernel_rfl) (.inr rfl)
                have hB := hg (n1 (by kernel_rfl))
                have hOl : O.length ≤ 10 := by have := HO.out; omega
                intro K hK
                refine wp_appendO w.heap.size V _ _ rfl (.slice pa O.length pc) O.length rO.flatten 2 0 os la ln lc true false (show val 1 = _ from h1) nb (show val 12 = _ from q1) q3 (OP.out V hB).1 (Nat.le_trans BO.out.size hB.size) (by omega) (fun g3 cap V' ho hgr hat => ?_)
                refine hK _ V' ⟨V, la, ln, lc, g3, cap, rfl, hB, q2, ho, hgr, hat⟩ (fun c => (by simp at c)) ?_
                intro j y hj hne hnd ht hr
                match j, hj, hne, hnd, ht, hr with
                | 0, _, _, _, _, hr => exact hr
                | 1, _, _, _, _, hr => exact hr
                | 2, _, _, _, _, hr => exact hr
                | 3, _, _, _, _, hr => exact hr
                | 4, _, _, _, _, hr => exact hr
                | 5, _, _, _, _, hr => exact hr
                | 6, _, _, _, _, hr => exact hr
                | 7, _, _, _, _, hr => exact hr
                | 8, _, _, _, _, hr => exact hr
                | 9, _, _, _, _, hr => exact hr
                | 10, _, _, _, ht, _ => exact absurd (ht 11 rfl).2 (by decide +kernel)
                | 11, _, _, _, ht, _ => exact absurd (ht 12 rfl).2 (by decide +kernel)
                | 12, _, _, _, ht, _ => exact absurd rfl (ht 13 rfl).1
                | 13, _, hne, _, _, _ => exact absurd rfl hne
                | 14, _, _, _, _, hr => exact hr
                | 15, _, _, hnd, _, _ => exact absurd hnd (by decide +kernel)
                | j + 16, hj, _, _, _, _ => exact absurd hj (by simp)
              · refine ⟨rfl, fun _ _ => rfl, fun val V b1 b2 hg n1 n2 a1 _ hd => ?_⟩
                refine does3_value (v := .pointer (some ⟨yb, 4, none⟩)) hg rfl rfl ?_ rfl
                simp [execOp, Act.eval, go_sem]
              · refine ⟨rfl, fun _ _ => rfl, fun val V b1 b2 hg n1 n2 a1 _ hd => ?_⟩
                have h14 : val 14 = .pointer (some ⟨yb, 4, none⟩) := depsT_get hd 14 (by kernel_rfl) (.inl rfl)
                obtain ⟨V1, la, ln, lc, g3, cap, h13, hB, q2, ho, hgr, hat⟩ := depsT_get hd 13 (by kernel_rfl) (.inr rfl)
                have yb4 : V.heap[yb]? = some (.cells #[.int .i64 0, .int .i64 1, .int .i64 (2 * (k : Int)), .int .i64 (2 * (k : Int) + 1), .slice pa O.length pc] 47) := by
                  have my := MYH.out.later hB
                  refine (hgr.block yb (blt my.box) (fun e => ?_)).trans my.box
                  obtain ⟨_, _, cs, q⟩ := own_block my.ops.own e.symm
                  rw [my.box] at q
                  injection q with q
                  injection q with _ q
                  exact absurd q (by decide)
                have q4 : V.cell? ⟨yb, 4, none⟩ = some (.slice pa O.length pc) := Lib.cell_of_heap yb4 4
                have f4 : V.frozen? ⟨yb, 4, none⟩ = false := Lib.frozen_of_heap yb4 4
                have IN8 : InS w w.heap.size yb (.slice oua k ouc) k (2 * (k : Int)) (2 * (k : Int) + 1) m (j + 1) (V.setCell ⟨yb, 4, none⟩ (.slice (some ⟨g3, 0, none⟩) (O.length + 1) cap)) := by
                  have hL := HL.out
                  have q := read_s (j := j) (key := os) MYH.out PIH.out (by have := HL.out; omega) (by have := HO.out; omega) HKS.out HM.out HO.out BO.out hB q2 ho hgr hat
                  rw [show L.length = k from hL] at q
                  exact q
                refine does3_skip (w' := V.setCell ⟨yb, 4, none⟩ (.slice (some ⟨g3, 0, none⟩) (O.length + 1) cap)) ?_ IN8 (fun c => (by rw [a1 (by kernel_rfl)] at c; cases c)) ?_
                · simp [execOp, Act.eval, go_sem, h14, h13, q4, f4, Result.andThen]
                · intro j y hj hne hnd ht hr
                  match j, hj, hne, hnd, ht, hr with
                  | 0, _, _, _, _, hr => exact hr
                  | 1, _, _, _, _, hr => exact hr
                  | 2, _, _, _, _, hr => exact hr
                  | 3, _, _, _, _, hr => exact hr
                  | 4, _, _, _, _, hr => exact hr
                  | 5, _, _, _, _, hr => exact hr
                  | 6, _, _, _, _, hr => exact hr
                  | 7, _, _, _, _, hr => exact hr
                  | 8, _, _, _, _, hr => exact hr
                  | 9, _, _, _, _, hr => exact hr
                  | 10, _, _, _, ht, _ => exact absurd (ht 11 rfl).2 (by decide +kernel)
                  | 11, _, _, _, ht, _ => exact absurd (ht 12 rfl).2 (by decide +kernel)
                  | 12, _, _, _, ht, _ => exact absurd (ht 13 rfl).2 (by decide +kernel)
                  | 13, _, _, _, ht, _ => exact absurd rfl (ht 15 rfl).1
                  | 14, _, _, _, _, hr => exact hr
                  | 15, _, hne, _, _, _ => exact absurd rfl hne
                  | j + 16, hj, _, _, _, _ => exact absurd hj (by simp)
              intro val W4 _ hR
              have IN8 : Hid (InS w w.heap.size yb (.slice oua k ouc) k (2 * (k : Int)) (2 * (k : Int) + 1) m (j + 1) W4) := hR 15 (by decide) rfl
              clear hR y0 y1 LK OW OP OBX NDB NMB MYH BO PIH HL HM HO
              go_wp2_with fail
              go_roundg (T.length - (j + 1))
              case measure => omega
              case rel => exact ⟨j + 1, m, by omega, by omega, by go_num, rfl, IN8.out⟩
            · have hkb2 : (ok == (2 : Int)) = false := by simpa using hk2
              have I4 := hid I3.out.more
              clear I3 OX y1
              go_wp2_with fail
              go_roundg (T.length - (j + 1))
              case measure => omega
              case rel => exact ⟨j + 1, m, by omega, by omega, by go_num, rfl, I4.out⟩
        · have hje : j = T.length := by omega
          have hjli : ¬ (j : Int) < T.length := by omega
          obtain ⟨P, D, m', rT, L, opsv, rO, O, h1, h2, h3, h4, h5, h6⟩ := IJ.out
          obtain ⟨pa, pc, rfl⟩ := own_slice h1.ops.own
          have MYH := hid h1
          have PIH := hid h2
          have HL := hid h3
          have HM := hid h4
          have BO : Hid (Below w.heap.size w wr) := h6
          have hOl : O.length ≤ 10 := by omega
          have HOL := hid hOl
          have z0 : wr.cell? ⟨yb, 0, none⟩ = some (.int .i64 0) := Lib.cell_of_heap h1.box 0
          have z1 : wr.cell? ⟨yb, 1, none⟩ = some (.int .i64 1) := Lib.cell_of_heap h1.box 1
          have z2 : wr.cell? ⟨yb, 2, none⟩ = some (.int .i64 (2 * (k : Int))) := Lib.cell_of_heap h1.box 2
          have z3 : wr.cell? ⟨yb, 3, none⟩ = some (.int .i64 (2 * (k : Int) + 1)) := Lib.cell_of_heap h1.box 3
          have z4 : wr.cell? ⟨yb, 4, none⟩ = some (.slice pa O.length pc) := Lib.cell_of_heap h1.box 4
          have OX : Hid ((wr.alloc (.cells #[.int .i64 0, .int .i64 1, .int .i64 (2 * (k : Int)), .int .i64 (2 * (k : Int) + 1), .slice pa O.length pc] 47)).ownsRow w.heap.size 47 5 (.slice oua k ouc) k rT.flatten) := by
            have q := own_same h1.mi.out.own (w' := (wr.alloc (.cells #[.int .i64 0, .int .i64 1, .int .i64 (2 * (k : Int)), .int .i64 (2 * (k : Int) + 1), .slice pa O.length pc] 47))) (fun g hg => (below_box wr _).block g (own_block h1.mi.out.own hg).2.1)
            rw [h3] at q
            exact q
          have NEW : Hid (∀ q u, ([.int .i64 0, .int .i64 1, .int .i64 (2 * (k : Int)), .int .i64 (2 * (k : Int) + 1), .slice pa O.length pc] : List Value)[q]? = some u → (wr.alloc (.cells #[.int .i64 0, .int .i64 1, .int .i64 (2 * (k : Int)), .int .i64 (2 * (k : Int) + 1), .slice pa O.length pc] 47)).cell? ((⟨wr.heap.size, 0, none⟩ : Addr).add q) = some u) := World.news_of_block (cs := #[.int .i64 0, .int .i64 1, .int .i64 (2 * (k : Int)), .int .i64 (2 * (k : Int) + 1), .slice pa O.length pc]) (t := 47) (fr := (0, 0)) (heap_alloc_new wr _)
          have ONE : Hid (∀ u ∈ ([.int .i64 0, .int .i64 1, .int .i64 (2 * (k : Int)), .int .i64 (2 * (k : Int) + 1), .slice pa O.length pc] : List Value), u.oneCell' = true) := by
            intro u hu
            simp only [List.mem_cons, List.not_mem_nil, or_false] at hu
            rcases hu with rfl | rfl | rfl | rfl | rfl <;> rfl
          have SZB : Hid (w.heap.size ≤ (wr.alloc (.cells #[.int .i64 0, .int .i64 1, .int .i64 (2 * (k : Int)), .int .i64 (2 * (k : Int) + 1), .slice pa O.length pc] 47)).heap.size) := by show _ ≤ _; rw [alloc_size]; have := h6.size; omega
          clear IJ h1 h2 h3 h4 h5 h6 BJ hOl
          go_wp2_with (at_builtin; refine wpList_append_lies _ rfl _ _ 22 rfl w.heap.size 47 i0 _ 5 56 Try.underlying22 HI0.out HZ0.out HZ1.out HZ2.out rfl (by decide) (.slice oua k ouc) k rT.flatten rfl OX.out ⟨wr.heap.size, 0, none⟩ 1 1 [.int .i64 0, .int .i64 1, .int .i64 (2 * (k : Int)), .int .i64 (2 * (k : Int) + 1), .slice pa O.length pc] rfl rfl NEW.out ONE.out (by decide) (by unfold maxLen; omega) (by omega) SZB.out (wr.heap.size + 1) (alloc_size _ _) ?_; intro g8 cap8 w8 hown8 hgrow8 hat8 hglt8; have O8 := hid hown8; have G8 := hid hgrow8; have A8 := hid hat8; clear hown8 hgrow8 hat8 hglt8)
          have OS8 : Hid (OutS w w.heap.size (.slice (some ⟨g8, 0, none⟩) (k + 1) cap8) m (k + 1) w8) := by
            have hL := HL.out
            have q := done_s (w' := (wr.alloc (.cells #[.int .i64 0, .int .i64 1, .int .i64 (2 * (k : Int)), .int .i64 (2 * (k : Int) + 1), .slice pa O.length pc] 47))) (w3 := w8) (g3 := g8) (cap := cap8) MYH.out PIH.out HM.out HOL.out BO.out (below_box wr _) (by rw [show L.length = k from hL]; exact O8.out) G8.out (A8.out.imp id (fun e => by rw [e, alloc_size]))
            rw [show L.length = k from hL] at q
            exact q
          clear MYH PIH HL HM BO O8 G8 A8
          go_roundg (l.length - (k + 1))
          case measure => omega
          case rel => exact ⟨k + 1, m, by omega, by omega, by go_num, rfl, OS8.out⟩
    · have hke : l.length = k := by omega
      have hlti : ¬ (k : Int) < l.length := by omega
      have OV := hid (OR.out.over (by omega))
      rw [← hke] at OV
      clear OR
      go_wp2_with fail
      refine bodyPost_ret (v := .slice oua k ouc) (by simp [results, Try.results23, go_sem]) rfl ?_
      rw [← hke]
      exact OV.out
end Go.Proofs.Ytnfbcmnlloipiaa
