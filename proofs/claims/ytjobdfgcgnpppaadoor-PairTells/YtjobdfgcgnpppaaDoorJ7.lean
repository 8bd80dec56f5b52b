/-
  begin: an invocation is noted, and its transaction begun.
-/
import Derived.Test.YtjobdfgcgnpppaaDoorJ6
import Derived.OwnWalk
namespace Go.Proofs.YtjobdfgcgnpppaaDoor
set_option linter.unusedVariables false
set_option linter.unusedSimpArgs false
open Go.RowKit Go.Lib Go.Maps

theorem wf_nat (n : Nat) (h : n < 1000000) : (Lit.int .i64 (n : Int)).wf = true := by
  have a : IntKind.i64.min = -9223372036854775808 := by decide
  have b : IntKind.i64.max = 9223372036854775807 := by decide
  simp [Lit.wf, a, b]
  omega
theorem key3 (p : Nat) (hp : p < 100) : keyOf Tryd.prog 3 (.int .i64 (p : Int)) = some (.int .i64 (p : Int)) := keyOf_int_mk Tryd.underlying3 (wf_nat p (by omega))
theorem Tryd.infoTx : (Tryd.prog.info? 44).map (fun i => (i.zero, i.size, i.bytes)) = some (some (.agg #[.int .i64 0, .int .i64 0, .int .i64 0, .int .i64 0, .slice none 0 0]), 5, 56) := by kernel_rfl
theorem wp_appendT {o : Oper} {A : Act} {K : Act → World → Prop} {Q : Exit → Act → World → Prop} (base : Nat) (V : World) (s x : Operand)
    (ho : o.op = .call { callee := .builtin .append, args := #[s, x], argTypes := #[33, 33] }) (out : Value) (n : Nat) (xs : List Value) (a b c d : Int) (la : Option Addr) (ln lc : Nat) (hs : A.eval s = out) (nb : Nat) (hx : A.eval x = .slice (some ⟨nb, 0, none⟩) 1 1) (hblk : V.heap[nb]? = some (.cells #[.int .i64 a, .int .i64 b, .int .i64 c, .int .i64 d, .slice la ln lc] 44))
    (h1 : V.ownsRow base 44 5 out n xs) (hb : base ≤ V.heap.size) (hl : n ≤ 400000)
    (hK : ∀ g cap V', V'.ownsRow base 44 5 (.slice (some ⟨g, 0, none⟩) (n + 1) cap) (n + 1) (xs ++ [.int .i64 a, .int .i64 b, .int .i64 c, .int .i64 d, .slice la ln lc]) → V.grownBy V' out.ownBlock → (out.ownBlock = some g ∨ g = V.heap.size) → K (A.put o.dst (.slice (some ⟨g, 0, none⟩) (n + 1) cap)) V') : o.wp Tryd.prog A V K Q := by
  obtain ⟨i0, hi0, hz0, hz1, hz2⟩ := info_parts Tryd.infoTx
  refine wp_append_lies V s x 33 ho base 44 i0 _ 5 56 Tryd.underlying33 hi0 hz0 hz1 hz2 rfl (by decide) out n xs hs h1 ⟨nb, 0, none⟩ 1 1 [.int .i64 a, .int .i64 b, .int .i64 c, .int .i64 d, .slice la ln lc] hx rfl (World.news_of_block (cs := #[.int .i64 a, .int .i64 b, .int .i64 c, .int .i64 d, .slice la ln lc]) (t := 44) (fr := (0, 0)) hblk) ?_ (by decide) (by unfold maxLen; omega) (by omega) hb V.heap.size rfl ?_
  · intro u hu
    simp only [List.mem_cons, List.not_mem_nil, or_false] at hu
    rcases hu with rfl | rfl | rfl | rfl | rfl <;> rfl
  · intro g cap V' q1 q2 q3 _
    exact hK g cap V' q1 q2 q3
/-- What an invocation leaves open. -/
theorem OM.put {w w' : World} {ob m : Nat} {l : List MEv} {k : Nat} {p : Int} {O : List MOp} (hE : l.getD k default = (1, p, O)) {f g : Value → Option Value} (hf2 : ∀ q : Int, f (.int .i64 q) = (opnP l k q).map fun i => .int .i64 (invN l i : Int)) (hp : IsPut f (.int .i64 p) (.int .i64 (invN l k : Int)) g) (hm : MapV w' Tryd.prog 3 ob (m + 1) g) : OM w' ob (m + 1) l (k + 1) := by
  refine ⟨g, hm, fun q => ?_⟩
  unfold opnP
  rw [hE]
  by_cases e : p = q
  · subst e
    rw [hp.1]
    simp [MEv.proc, MEv.kind]
  · rw [hp.2 _ (fun c => e (by injection c with _ c; exact c.symm)), hf2 q]
    simp [MEv.proc, e]
/-- What lies behind the store of the transactions. -/
theorem PT.begun {W1 V : World} {B pb ob hb m : Nat} {l : List MEv} {k p : Nat} {O : List MOp} {v y : Value} {rows : List (List Value)} (hpb : pb < B) (hob : ob < B) (hhb : hb < B) (hB : B ≤ W1.heap.size) (n1 : pb ≠ ob) (n2 : pb ≠ hb) (n3 : ob ≠ hb) (hE : l.getD k default = (1, (p : Int), O)) (hgone : goneP l k (p : Int) = false)
    (c1 : W1.cell? ⟨pb, 1, none⟩ = some (.map (some ob))) (gone : ∀ p : Nat, p < 100 → W1.cell? ⟨pb, 2 + p, none⟩ = some (.bool (goneP l k p))) (c2 : W1.cell? ⟨pb, 102, none⟩ = some (.map (some hb))) (c0 : W1.cell? ⟨pb, 0, none⟩ = some v) (soft : ∀ o, W1.frozen? ⟨pb, o, none⟩ = false)
    (hm : m ≤ k) (hom : OM W1 ob (m + 1) l (k + 1)) (hsz : W1.heap.size ≤ V.heap.size) (hV : ∀ b, b < B → V.heap[b]? = W1.heap[b]?) (hout : OutInv 44 5 TxR B V y (invN l k + 1) rows (txL l k ++ [((p : Int), 3, (k : Int), -1, O)])) : PT (V.setCell ⟨pb, 0, none⟩ y) B pb ob hb l (k + 1) := by
  have ep := hV pb hpb
  have other : ∀ o u, o ≠ 0 → W1.cell? ⟨pb, o, none⟩ = some u → (V.setCell ⟨pb, 0, none⟩ y).cell? ⟨pb, o, none⟩ = some u := fun o u ho hu => (World.cell?_setCell_other _ _ _ _ (fun c => ho (by have := congrArg Addr.off c; simpa using this.symm))).trans (cell_same ep hu)
  have blk : ∀ b, b ≠ pb → (V.setCell ⟨pb, 0, none⟩ y).heap[b]? = V.heap[b]? := fun b hb => set_ne hb
  refine ⟨hpb, hob, hhb, ?_, n1, n2, n3, other 1 _ (by decide) c1, fun q hq => ?_, other 102 _ (by decide) c2, fun o => ?_, ⟨m + 1, by omega, hom.same ((blk ob n1.symm).trans (hV ob hob))⟩, y, rows, ?_, ?_⟩
  · simp [World.setCell]; omega
  · refine (other (2 + q) _ (by omega) (gone q hq)).trans ?_
    have e : goneP l (k + 1) (q : Int) = goneP l k (q : Int) := by
      show (if (l.getD k default).proc = (q : Int) then (l.getD k default).kind == 4 else goneP l k q) = _
      rw [hE]
      by_cases e : (p : Int) = (q : Int)
      · rw [← e, hgone]
        simp [MEv.proc, MEv.kind]
      · simp [MEv.proc, e]
    rw [e]
  · rw [World.frozen?_setCell]
    exact (frozen_same ep o).trans (soft o)
  · exact World.cell?_setCell_same _ _ _ (cell_same ep c0)
  · have e1 : invN l (k + 1) = invN l k + 1 := by rw [invN_succ, hE]; rfl
    have e2 : txL l (k + 1) = txL l k ++ [((p : Int), 3, (k : Int), -1, O)] := by
      show (if (l.getD k default).kind = 1 then _ else _) = _
      rw [hE]
      rfl
    rw [e1, e2]
    exact hout.stay txR_keep (fun b hl hb => blk b (by omega))
/-- The transactions with one more, all else of W1 as it was. -/
def AppB (B : Nat) (W1 V : World) (l : List MEv) (k p : Nat) (O : List MOp) (y : Value) : Prop :=
  ∃ rows, OutInv 44 5 TxR B V y (invN l k + 1) rows (txL l k ++ [((p : Int), 3, (k : Int), -1, O)]) ∧ W1.heap.size ≤ V.heap.size ∧ V.os = W1.os ∧ V.tape = W1.tape ∧ V.output = W1.output ∧ ∀ b, b < B → V.heap[b]? = W1.heap[b]?
set_option maxHeartbeats 8000000 in
set_option maxRecDepth 100000 in
theorem begin_is {S : Nat → Prop} (w : World) (B pb ob hb : Nat) (l : List MEv) (k p : Nat) (O : List MOp) (v : Value) (h : PT w B pb ob hb l k) (hE : l.getD k default = (1, (p : Int), O)) (hp : p < 100) (hkb : k ≤ 100000) (hgone : goneP l k (p : Int) = false) (hv : OpsIn S w v O) (hS : ∀ b, S b → b ≠ ob) (hks : ∀ o ∈ O, o.key.size ≤ 281474976710656) :
    Calls Tryd.prog 45 #[.pointer (some ⟨pb, 0, none⟩), .int .i64 (k : Int), .agg #[.int .i64 1, .int .i64 (p : Int), v]] w fun e w' => e = .returned (.tuple #[]) ∧ PT w' B pb ob hb l (k + 1) ∧ KB B pb ob w w' := by
  obtain ⟨W, hW⟩ : ∃ W, w.alloc (.cells #[.int .i64 1, .int .i64 (p : Int), v] 42) = W := ⟨_, rfl⟩
  have BW1 : Hid (Below w.heap.size w W) := by rw [← hW]; exact below_box w _
  obtain ⟨xb, hxb⟩ : ∃ xb, w.heap.size = xb := ⟨_, rfl⟩
  have x1 : W.cell? ⟨xb, 1, none⟩ = some (.int .i64 (p : Int)) := by rw [← hW, ← hxb]; exact new_cells w _ 42 1
  have x2 : W.cell? ⟨xb, 2, none⟩ = some v := by rw [← hW, ← hxb]; exact new_cells w _ 42 2
  have hxl : xb < W.heap.size := World.block_lt_of_cell? _ _ x1
  have P1 := h.keep BW1.out.size (fun b hb _ => BW1.out.block b hb)
  obtain ⟨m, hmk, f, hf, hf2⟩ := P1.opn
  obtain ⟨tv, rows, c0, hout⟩ := P1.tx
  obtain ⟨ta, tc, rfl⟩ := own_slice hout.own
  obtain ⟨W1, g1, hrun, hput, hm1, hg1⟩ := MapV.put (w := W.drew) (hf.same rfl) keys3 Tryd.underlying63 (show m < maxLen by unfold maxLen; omega) (.int .i64 (invN l k : Int)) (key3 p hp)
  have OM1 := hid (OM.put (w := W) hE hf2 hput hm1)
  have blk1 : ∀ b, b < W.heap.size → b ≠ ob → W1.heap[b]? = W.heap[b]? := fun b hl hn => hg1.block b hl (fun e => hn (by injection e))
  have hxo : xb ≠ ob := by have := P1.hob; have := h.hB; omega
  have hpl : pb < W.heap.size := Nat.lt_of_lt_of_le P1.hpb P1.hB
  have kp := blk1 pb hpl P1.n1
  have k1 := P1.c1
  have z1 := cell_same (blk1 xb hxl hxo) x1
  have z2 := cell_same (blk1 xb hxl hxo) x2
  have y0 := cell_same kp c0
  have HK1 := hid (cell_same kp P1.c1)
  have HG : Hid (∀ p : Nat, p < 100 → W1.cell? ⟨pb, 2 + p, none⟩ = some (.bool (goneP l k p))) := fun q hq => cell_same kp (P1.gone q hq)
  have HK2 := hid (cell_same kp P1.c2)
  have HSO : Hid (∀ o, W1.frozen? ⟨pb, o, none⟩ = false) := fun o => (frozen_same kp o).trans (P1.soft o)
  have hsz1 : W.heap.size ≤ W1.heap.size := hg1.size
  have HOUT : Hid (OutInv 44 5 TxR B W1 (.slice ta (invN l k) tc) (invN l k) rows (txL l k)) := hout.stay txR_keep (fun b hl hB => blk1 b hl (by have := P1.hob; omega))
  have HB1 : Hid (B ≤ W1.heap.size) := Nat.le_trans P1.hB hsz1
  have HK : Hid (KB B pb ob w W1) := ⟨hg1.os.trans BW1.out.os, hg1.tape.trans BW1.out.tape, hg1.output.trans BW1.out.output, Nat.le_trans BW1.out.size hsz1, fun b hb h1 h2 => by
    have hbw : b < w.heap.size := Nat.lt_of_lt_of_le hb h.hB
    exact (blk1 b (Nat.lt_of_lt_of_le hbw BW1.out.size) h2).trans (BW1.out.block b hbw)⟩
  have CP : Hid (∀ V, Below W1.heap.size W1 V → Calls Tryd.prog 56 #[v] V fun e w' => ∃ v', e = .returned v' ∧ OpsOwn (fun b => W1.heap.size ≤ b) w' v' O ∧ Below V.heap.size V w') := fun V hV => by
    have hv1 : OpsIn Any W1 v O := hv.keep (fun b hs hb => (blk1 b (Nat.lt_of_lt_of_le hb BW1.out.size) (hS b hs)).trans (BW1.out.block b hb)) (fun _ _ _ => trivial)
    exact (copy_is v O V (hv1.below hV) hks).mono fun e w' ⟨v', h1, h2, h3⟩ => ⟨v', h1, h2.keep (fun _ _ _ => rfl) (fun b _ hb => Nat.le_trans hV.size hb), h3⟩
  have hle := invN_le l k
  have hil : (invN l k : Int) ≤ 100000 := by omega
  have PTB := hid (fun (V : World) (y : Value) (rows' : List (List Value)) => PT.begun (W1 := W1) (V := V) (y := y) (rows := rows') (hb := hb) P1.hpb P1.hob P1.hhb HB1.out P1.n1 P1.n2 P1.n3 hE hgone HK1.out HG.out HK2.out y0 HSO.out hmk OM1.out)
  have NPB : Hid (∀ b, b < B → (Value.slice ta (invN l k) tc).ownBlock ≠ some b) := fun b hb c => by have := (hout.own.lt b c).1; omega
  have HPB := hid P1.hpb
  clear hf hf2 hput hm1 hout P1 hv hks h
  go_enter Tryd.func45, Tryd.ntmps45
  go_wp2_with fail
  clear hW
  refine wp_region_gen Tryd.mixedOrders (by kernel_rfl) (fun val => { tmps := #[_, _, _, _, _, _, val 0, val 1, val 2, val 3, val 4, val 5, val 6, val 7, val 8, val 9, val 10, _, _, _, _, _, _, _, _, _, _, _, _, _, _, _, _], defers := [] }) (fun i => match i with | 0 => undef | 1 => undef | 2 => undef | 3 => undef | 4 => undef | 5 => undef | 6 => undef | 7 => undef | 8 => undef | 9 => undef | 10 => undef | 11 => undef | _ => undef) rfl (fun L V => V = if L 11 = true then W1 else W.drew) (fun L i y V => match i with | 0 => y = .pointer (some ⟨pb, 0, none⟩) | 1 => y = .pointer (some ⟨pb, 0, none⟩) | 2 => y = .pointer (some ⟨pb, 1, none⟩) | 3 => y = .map (some ob) | 4 => y = .pointer (some ⟨xb, 1, none⟩) | 5 => y = .int .i64 (p : Int) | 6 => y = .pointer (some ⟨pb, 0, none⟩) | 7 => y = .pointer (some ⟨pb, 0, none⟩) | 8 => y = .pointer (some ⟨pb, 0, none⟩) | 9 => y = .slice ta (invN l k) tc | 10 => y = .int .i64 (invN l k : Int) | 11 => True | _ => True) rfl _ rfl ⟨?_, ?_, ?_, ?_, ?_, ?_, ?_, ?_, ?_, ?_, ?_, ?_, trivial⟩ ?_
  · refine gen_plain rfl (fun _ _ => rfl) (fun L val V hc hi hu hg hd => ?_)
    refine gdoes_value (v := .pointer (some ⟨pb, 0, none⟩)) ?_ rfl hg (fun j u hj hr => hr)
    simp [execOp, Act.eval, go_sem]
  · refine gen_plain rfl (fun _ _ => rfl) (fun L val V hc hi hu hg hd => ?_)
    have h0 : val 0 = .pointer (some ⟨pb, 0, none⟩) := depsG_get hd 0 (by kernel_rfl)
    refine gdoes_value (v := .pointer (some ⟨pb, 0, none⟩)) ?_ rfl hg (fun j u hj hr => hr)
    simp [execOp, Act.eval, go_sem, h0]
  · refine gen_plain rfl (fun _ _ => rfl) (fun L val V hc hi hu hg hd => ?_)
    have h1 : val 1 = .pointer (some ⟨pb, 0, none⟩) := depsG_get hd 1 (by kernel_rfl)
    refine gdoes_value (v := .pointer (some ⟨pb, 1, none⟩)) ?_ rfl hg (fun j u hj hr => hr)
    simp [execOp, Act.eval, go_sem, h1]
  · refine gen_plain rfl (fun _ _ => rfl) (fun L val V hc hi hu hg hd => ?_)
    have h2 : val 2 = .pointer (some ⟨pb, 1, none⟩) := depsG_get hd 2 (by kernel_rfl)
    have hV : V = W.drew := by have q : L 11 = false := wants_back hc 12 11 3 (by kernel_rfl) hi; simpa [q] using hg
    have e2 : V.cell? ⟨pb, 1, none⟩ = some (.map (some ob)) := by rw [hV]; exact k1
    refine gdoes_value (v := .map (some ob)) ?_ rfl hg (fun j u hj hr => hr)
    simp [execOp, Act.eval, go_sem, h2, e2]
  · refine gen_plain rfl (fun _ _ => rfl) (fun L val V hc hi hu hg hd => ?_)
    refine gdoes_value (v := .pointer (some ⟨xb, 1, none⟩)) ?_ rfl hg (fun j u hj hr => hr)
    simp [execOp, Act.eval, go_sem]
  · refine gen_plain rfl (fun _ _ => rfl) (fun L val V hc hi hu hg hd => ?_)
    have h4 : val 4 = .pointer (some ⟨xb, 1, none⟩) := depsG_get hd 4 (by kernel_rfl)
    have hV : V = W.drew := by have q : L 11 = false := wants_back hc 12 11 5 (by kernel_rfl) hi; simpa [q] using hg
    have e2 : V.cell? ⟨xb, 1, none⟩ = some (.int .i64 (p : Int)) := by rw [hV]; exact x1
    refine gdoes_value (v := .int .i64 (p : Int)) ?_ rfl hg (fun j u hj hr => hr)
    simp [execOp, Act.eval, go_sem, h4, e2]
  · refine gen_plain rfl (fun _ _ => rfl) (fun L val V hc hi hu hg hd => ?_)
    refine gdoes_value (v := .pointer (some ⟨pb, 0, none⟩)) ?_ rfl hg (fun j u hj hr => hr)
    simp [execOp, Act.eval, go_sem]
  · refine gen_plain rfl (fun _ _ => rfl) (fun L val V hc hi hu hg hd => ?_)
    have h6 : val 6 = .pointer (some ⟨pb, 0, none⟩) := depsG_get hd 6 (by kernel_rfl)
    refine gdoes_value (v := .pointer (some ⟨pb, 0, none⟩)) ?_ rfl hg (fun j u hj hr => hr)
    simp [execOp, Act.eval, go_sem, h6]
  · refine gen_plain rfl (fun _ _ => rfl) (fun L val V hc hi hu hg hd => ?_)
    have h7 : val 7 = .pointer (some ⟨pb, 0, none⟩) := depsG_get hd 7 (by kernel_rfl)
    refine gdoes_value (v := .pointer (some ⟨pb, 0, none⟩)) ?_ rfl hg (fun j u hj hr => hr)
    simp [execOp, Act.eval, go_sem, h7]
  · refine gen_plain rfl (fun _ _ => rfl) (fun L val V hc hi hu hg hd => ?_)
    have h8 : val 8 = .pointer (some ⟨pb, 0, none⟩) := depsG_get hd 8 (by kernel_rfl)
    have hV : V = W.drew := by have q : L 11 = false := wants_back hc 12 11 9 (by kernel_rfl) hi; simpa [q] using hg
    have e2 : V.cell? ⟨pb, 0, none⟩ = some (.slice ta (invN l k) tc) := by rw [hV]; exact c0
    refine gdoes_value (v := .slice ta (invN l k) tc) ?_ rfl hg (fun j u hj hr => hr)
    simp [execOp, Act.eval, go_sem, h8, e2]
  · refine gen_plain rfl (fun _ _ => rfl) (fun L val V hc hi hu hg hd => ?_)
    have h9 : val 9 = .slice ta (invN l k) tc := depsG_get hd 9 (by kernel_rfl)
    refine gdoes_value (v := .int .i64 (invN l k : Int)) ?_ rfl hg (fun j u hj hr => hr)
    simp [execOp, Act.eval, go_sem, h9]
  · refine gen_plain rfl (fun _ _ => rfl) (fun L val V hc hi hu hg hd => ?_)
    have h3 : val 3 = .map (some ob) := depsG_get hd 3 (by kernel_rfl)
    have h5 : val 5 = .int .i64 (p : Int) := depsG_get hd 5 (by kernel_rfl)
    have h10 : val 10 = .int .i64 (invN l k : Int) := depsG_get hd 10 (by kernel_rfl)
    have hV : V = W.drew := by simpa [hi] using hg
    subst hV
    refine gdoes_skip (w' := W1) ?_ trivial (by rw [if_pos (upB_self L 11)]) (fun j u hj hr => hr)
    simp [execOp, Act.eval, go_sem, h3, h5, h10, hrun, Result.andThen]
  intro L val V hL hg hR
  rw [if_pos (hL 11 (by decide))] at hg
  replace hg := hg.symm
  subst hg
  clear hR hL k1 c0 x1 x2
  go_wp2_with fail
  refine wp_region_gen Tryd.mixedOrders (by kernel_rfl) (fun val => { tmps := #[_, _, _, _, _, _, _, _, _, _, _, _, _, _, _, _, _, val 0, val 1, val 2, val 3, val 4, val 5, val 6, val 7, val 8, val 9, val 10, val 11, val 12, val 13, val 14, val 15], defers := [] }) (fun i => match i with | 0 => undef | 1 => undef | 2 => undef | 3 => undef | 4 => undef | 5 => undef | 6 => undef | 7 => undef | 8 => undef | 9 => undef | 10 => undef | 11 => undef | 12 => undef | 13 => undef | 14 => undef | 15 => undef | 16 => undef | _ => undef) rfl (fun L V => (L 13 = false → Below W1.heap.size W1 V) ∧ (L 16 = true → PT V B pb ob hb l (k + 1) ∧ KB B pb ob w V)) (fun L i y V => match i with | 0 => y = .pointer (some ⟨pb, 0, none⟩) | 1 => y = .pointer (some ⟨pb, 0, none⟩) | 2 => y = .pointer (some ⟨pb, 0, none⟩) | 3 => y = .pointer (some ⟨pb, 0, none⟩) | 4 => y = .slice ta (invN l k) tc | 5 => y = .pointer (some ⟨xb, 1, none⟩) | 6 => y = .int .i64 (p : Int) | 7 => y = .int .i64 (k : Int) | 8 => y = .pointer (some ⟨xb, 2, none⟩) | 9 => y = v | 10 => ∃ la lc, y = .slice la O.length lc ∧ (L 13 = false → OpsOwn (fun b => W1.heap.size ≤ b) V (.slice la O.length lc) O) | 11 => ∃ la lc, y = .agg #[.int .i64 (p : Int), .int .i64 3, .int .i64 (k : Int), .int .i64 (-1), .slice la O.length lc] ∧ (L 13 = false → OpsOwn (fun b => W1.heap.size ≤ b) V (.slice la O.length lc) O) | 12 => L 13 = false → ∃ nb la lc, W1.heap.size ≤ nb ∧ y = .slice (some ⟨nb, 0, none⟩) 1 1 ∧ V.heap[nb]? = some (.cells #[.int .i64 (p : Int), .int .i64 3, .int .i64 (k : Int), .int .i64 (-1), .slice la O.length lc] 44) ∧ OpsOwn (fun b => W1.heap.size ≤ b) V (.slice la O.length lc) O | 13 => L 16 = false → AppB B W1 V l k p O y | 14 => y = .pointer (some ⟨pb, 0, none⟩) | 15 => y = .pointer (some ⟨pb, 0, none⟩) | 16 => True | _ => True) ⟨fun _ => below_drew (Below.refl _ _), fun c => by cases c⟩ _ rfl ⟨?_, ?_, ?_, ?_, ?_, ?_, ?_, ?_, ?_, ?_, ?_, ?_, ?_, ?_, ?_, ?_, ?_, trivial⟩ ?_
  · refine gen_plain rfl (fun _ _ => rfl) (fun L val V hc hi hu hg hd => ?_)
    refine gdoes_value (v := .pointer (some ⟨pb, 0, none⟩)) ?_ rfl hg (fun j u hj hr => hr)
    simp [execOp, Act.eval, go_sem]
  · refine gen_plain rfl (fun _ _ => rfl) (fun L val V hc hi hu hg hd => ?_)
    refine gdoes_value (v := .pointer (some ⟨pb, 0, none⟩)) ?_ rfl hg (fun j u hj hr => hr)
    simp [execOp, Act.eval, go_sem]
  · refine gen_plain rfl (fun _ _ => rfl) (fun L val V hc hi hu hg hd => ?_)
    have h1 : val 1 = .pointer (some ⟨pb, 0, none⟩) := depsG_get hd 1 (by kernel_rfl)
    refine gdoes_value (v := .pointer (some ⟨pb, 0, none⟩)) ?_ rfl hg (fun j u hj hr => hr)
    simp [execOp, Act.eval, go_sem, h1]
  · refine gen_plain rfl (fun _ _ => rfl) (fun L val V hc hi hu hg hd => ?_)
    have h2 : val 2 = .pointer (some ⟨pb, 0, none⟩) := depsG_get hd 2 (by kernel_rfl)
    refine gdoes_value (v := .pointer (some ⟨pb, 0, none⟩)) ?_ rfl hg (fun j u hj hr => hr)
    simp [execOp, Act.eval, go_sem, h2]
  · refine gen_plain rfl (fun _ _ => rfl) (fun L val V hc hi hu hg hd => ?_)
    have h3 : val 3 = .pointer (some ⟨pb, 0, none⟩) := depsG_get hd 3 (by kernel_rfl)
    have e2 : V.cell? ⟨pb, 0, none⟩ = some (.slice ta (invN l k) tc) := cell_later (hg.1 (wants_back hc 17 13 4 (by kernel_rfl) hi)) y0
    refine gdoes_value (v := .slice ta (invN l k) tc) ?_ rfl hg (fun j u hj hr => hr)
    simp [execOp, Act.eval, go_sem, h3, e2]
  · refine gen_plain rfl (fun _ _ => rfl) (fun L val V hc hi hu hg hd => ?_)
    refine gdoes_value (v := .pointer (some ⟨xb, 1, none⟩)) ?_ rfl hg (fun j u hj hr => hr)
    simp [execOp, Act.eval, go_sem]
  · refine gen_plain rfl (fun _ _ => rfl) (fun L val V hc hi hu hg hd => ?_)
    have h5 : val 5 = .pointer (some ⟨xb, 1, none⟩) := depsG_get hd 5 (by kernel_rfl)
    have e2 : V.cell? ⟨xb, 1, none⟩ = some (.int .i64 (p : Int)) := cell_later (hg.1 (wants_back hc 17 13 6 (by kernel_rfl) hi)) z1
    refine gdoes_value (v := .int .i64 (p : Int)) ?_ rfl hg (fun j u hj hr => hr)
    simp [execOp, Act.eval, go_sem, h5, e2]
  · refine gen_plain rfl (fun _ _ => rfl) (fun L val V hc hi hu hg hd => ?_)
    refine gdoes_value (v := .int .i64 (k : Int)) ?_ rfl hg (fun j u hj hr => hr)
    simp [execOp, Act.eval, go_sem]
  · refine gen_plain rfl (fun _ _ => rfl) (fun L val V hc hi hu hg hd => ?_)
    refine gdoes_value (v := .pointer (some ⟨xb, 2, none⟩)) ?_ rfl hg (fun j u hj hr => hr)
    simp [execOp, Act.eval, go_sem]
  · refine gen_plain rfl (fun _ _ => rfl) (fun L val V hc hi hu hg hd => ?_)
    have h8 : val 8 = .pointer (some ⟨xb, 2, none⟩) := depsG_get hd 8 (by kernel_rfl)
    have e2 : V.cell? ⟨xb, 2, none⟩ = some (v) := cell_later (hg.1 (wants_back hc 17 13 9 (by kernel_rfl) hi)) z2
    refine gdoes_value (v := v) ?_ rfl hg (fun j u hj hr => hr)
    simp [execOp, Act.eval, go_sem, h8, e2]
  · refine gen_plain rfl (fun _ _ => rfl) (fun L val V hc hi hu hg hd => ?_)
    have h9 : val 9 = v := depsG_get hd 9 (by kernel_rfl)
    have h13 : L 13 = false := wants_back hc 17 13 10 (by kernel_rfl) hi
    have h16 : L 16 = false := wants_back hc 17 16 10 (by kernel_rfl) hi
    refine gdoes_call (f := 56) (args := #[v]) ?_ (CP.out V (hg.1 h13)) ?_
    · simp [execOp, Act.eval, go_sem, resolve, invoke, h9]
    · rintro e w' ⟨v', rfl, ho, hb3⟩
      have hbv : Below V.heap.size V w' := hb3
      obtain ⟨la, lc, rfl, _⟩ := id ho
      refine ⟨_, rfl, ⟨la, lc, rfl, fun _ => ho⟩, ⟨fun _ => bstep hb3 (hg.1 h13), fun c => (by rw [show upB L 10 16 = L 16 from rfl, h16] at c; cases c)⟩, ?_⟩
      intro j u hj hr
      match j, hj, hr with
      | 0, _, hr => exact hr
      | 1, _, hr => exact hr
      | 2, _, hr => exact hr
      | 3, _, hr => exact hr
      | 4, _, hr => exact hr
      | 5, _, hr => exact hr
      | 6, _, hr => exact hr
      | 7, _, hr => exact hr
      | 8, _, hr => exact hr
      | 9, _, hr => exact hr
      | 10, hj, hr => rw [hi] at hj; cases hj
      | 11, hj, hr => exact hr.imp fun la hr => hr.imp fun lc hr => ⟨hr.1, fun c => (hr.2 c).keep (keeps_below hbv) (fun _ _ h => h)⟩
      | 12, hj, hr => rw [wants_back hc 17 12 10 (by kernel_rfl) hi] at hj; cases hj
      | 13, hj, hr => rw [wants_back hc 17 13 10 (by kernel_rfl) hi] at hj; cases hj
      | 14, _, hr => exact hr
      | 15, _, hr => exact hr
      | 16, _, hr => trivial
      | _ + 17, _, hr => trivial
  · refine gen_plain rfl (fun _ _ => rfl) (fun L val V hc hi hu hg hd => ?_)
    have h6 : val 6 = .int .i64 (p : Int) := depsG_get hd 6 (by kernel_rfl)
    have h7 : val 7 = .int .i64 (k : Int) := depsG_get hd 7 (by kernel_rfl)
    obtain ⟨la, lc, h10, ho⟩ := depsG_get hd 10 (by kernel_rfl)
    refine gdoes_value (v := .agg #[.int .i64 (p : Int), .int .i64 3, .int .i64 (k : Int), .int .i64 (-1), .slice la O.length lc]) ?_ ⟨la, lc, rfl, ho⟩ hg (fun j u hj hr => hr)
    simp [execOp, Act.eval, go_sem, h6, h7, h10]
  · refine gen_plain rfl (fun _ _ => rfl) (fun L val V hc hi hu hg hd => ?_)
    obtain ⟨la, lc, h11, ho⟩ := depsG_get hd 11 (by kernel_rfl)
    have h13 : L 13 = false := wants_back hc 17 13 12 (by kernel_rfl) hi
    have h16 : L 16 = false := wants_back hc 17 16 12 (by kernel_rfl) hi
    have hbv : Below V.heap.size V (V.alloc (.cells #[.int .i64 (p : Int), .int .i64 3, .int .i64 (k : Int), .int .i64 (-1), .slice la O.length lc] 44)) := below_box V _
    refine gdoes_turn (v := .slice (some ⟨V.heap.size, 0, none⟩) 1 1) (w' := V.alloc (.cells #[.int .i64 (p : Int), .int .i64 3, .int .i64 (k : Int), .int .i64 (-1), .slice la O.length lc] 44)) ?_ (fun _ => ⟨V.heap.size, la, lc, (hg.1 h13).size, rfl, heap_alloc_new V _, (ho h13).keep (keeps_below hbv) (fun _ _ h => h)⟩) ⟨fun _ => bstep hbv (hg.1 h13), fun c => (by rw [show upB L 12 16 = L 16 from rfl, h16] at c; cases c)⟩ ?_
    · simp [execOp, Act.eval, go_sem, h11]
    · intro j u hj hr
      match j, hj, hr with
      | 0, _, hr => exact hr
      | 1, _, hr => exact hr
      | 2, _, hr => exact hr
      | 3, _, hr => exact hr
      | 4, _, hr => exact hr
      | 5, _, hr => exact hr
      | 6, _, hr => exact hr
      | 7, _, hr => exact hr
      | 8, _, hr => exact hr
      | 9, _, hr => exact hr
      | 10, hj, hr => exact hr.imp fun la hr => hr.imp fun lc hr => ⟨hr.1, fun c => (hr.2 c).keep (keeps_below hbv) (fun _ _ h => h)⟩
      | 11, hj, hr => exact hr.imp fun la hr => hr.imp fun lc hr => ⟨hr.1, fun c => (hr.2 c).keep (keeps_below hbv) (fun _ _ h => h)⟩
      | 12, hj, hr => rw [hi] at hj; cases hj
      | 13, hj, hr => rw [wants_back hc 17 13 12 (by kernel_rfl) hi] at hj; cases hj
      | 14, _, hr => exact hr
      | 15, _, hr => exact hr
      | 16, _, hr => trivial
      | _ + 17, _, hr => trivial
  · refine gen_plain rfl (fun _ _ => rfl) (fun L val V hc hi hu hg hd => ?_)
    have h4 : val 4 = .slice ta (invN l k) tc := depsG_get hd 4 (by kernel_rfl)
    obtain ⟨nb, la, lc, q1, q2, q3, q4⟩ := depsG_get hd 12 (by kernel_rfl) hi
    have h16 : L 16 = false := wants_back hc 17 16 13 (by kernel_rfl) hi
    have hB := hg.1 hi
    intro K hK
    refine wp_appendT B V _ _ rfl (.slice ta (invN l k) tc) (invN l k) rows.flatten (p : Int) 3 (k : Int) (-1) la O.length lc (show val 4 = _ from h4) nb (show val 12 = _ from q2) q3 (HOUT.out.own3 hB) (Nat.le_trans HB1.out hB.size) (by omega) (fun g cap V' ho hgr hat => ?_)
    refine hK _ V' (fun _ => ⟨_, OutInv.more txR_keep HOUT.out HB1.out hB (row := [.int .i64 (p : Int), .int .i64 3, .int .i64 (k : Int), .int .i64 (-1), .slice la O.length lc]) (x := ((p : Int), 3, (k : Int), -1, O)) ⟨_, rfl, q4⟩ rfl ho hgr hat, Nat.le_trans hB.size hgr.size, hgr.os.trans hB.os, hgr.tape.trans hB.tape, hgr.output.trans hB.output, fun b hb => (hgr.block b (Nat.lt_of_lt_of_le hb (Nat.le_trans HB1.out hB.size)) (fun e => NPB.out b hb e.symm)).trans (hB.block b (Nat.lt_of_lt_of_le hb HB1.out))⟩) ⟨fun c => (by rw [upB_self] at c; cases c), fun c => (by rw [show upB L 13 16 = L 16 from rfl, h16] at c; cases c)⟩ ?_
    intro j u hj hr
    match j, hj, hr with
    | 0, _, hr => exact hr
    | 1, _, hr => exact hr
    | 2, _, hr => exact hr
    | 3, _, hr => exact hr
    | 4, _, hr => exact hr
    | 5, _, hr => exact hr
    | 6, _, hr => exact hr
    | 7, _, hr => exact hr
    | 8, _, hr => exact hr
    | 9, _, hr => exact hr
    | 10, _, hr => exact hr.imp fun la hr => hr.imp fun lc hr => ⟨hr.1, fun c => (by rw [upB_self] at c; cases c)⟩
    | 11, _, hr => exact hr.imp fun la hr => hr.imp fun lc hr => ⟨hr.1, fun c => (by rw [upB_self] at c; cases c)⟩
    | 12, _, hr => exact fun c => (by rw [upB_self] at c; cases c)
    | 13, hj, _ => rw [hi] at hj; cases hj
    | 14, _, hr => exact hr
    | 15, _, hr => exact hr
    | 16, _, hr => trivial
    | _ + 17, _, hr => trivial
  · refine gen_plain rfl (fun _ _ => rfl) (fun L val V hc hi hu hg hd => ?_)
    have h0 : val 0 = .pointer (some ⟨pb, 0, none⟩) := depsG_get hd 0 (by kernel_rfl)
    refine gdoes_value (v := .pointer (some ⟨pb, 0, none⟩)) ?_ rfl hg (fun j u hj hr => hr)
    simp [execOp, Act.eval, go_sem, h0]
  · refine gen_plain rfl (fun _ _ => rfl) (fun L val V hc hi hu hg hd => ?_)
    have h14 : val 14 = .pointer (some ⟨pb, 0, none⟩) := depsG_get hd 14 (by kernel_rfl)
    refine gdoes_value (v := .pointer (some ⟨pb, 0, none⟩)) ?_ rfl hg (fun j u hj hr => hr)
    simp [execOp, Act.eval, go_sem, h14]
  · refine gen_plain rfl (fun _ _ => rfl) (fun L val V hc hi hu hg hd => ?_)
    have h15 : val 15 = .pointer (some ⟨pb, 0, none⟩) := depsG_get hd 15 (by kernel_rfl)
    have h13 := depsG_on hd 13 (by kernel_rfl)
    obtain ⟨rows', q1, q2, q3, q4, q5, q6⟩ := depsG_get hd 13 (by kernel_rfl) hi
    obtain ⟨ya, yc, hy⟩ := own_slice q1.own
    have ep := q6 pb HPB.out
    have e0 := cell_same ep y0
    have e1 : V.frozen? ⟨pb, 0, none⟩ = false := (frozen_same ep 0).trans (HSO.out 0)
    have PN := PTB.out V _ rows' q2 q6 q1
    rw [hy] at PN
    refine gdoes_skip (w' := V.setCell ⟨pb, 0, none⟩ (.slice ya (invN l k + 1) yc)) ?_ trivial ⟨fun c => (by rw [show upB L 16 13 = L 13 from rfl, h13] at c; cases c), fun _ => ⟨PN, q3.trans HK.out.1, q4.trans HK.out.2.1, q5.trans HK.out.2.2.1, Nat.le_trans HK.out.2.2.2.1 (by simpa [World.setCell] using q2), fun b hb h1 h2 => (set_ne h1).trans ((q6 b hb).trans (HK.out.2.2.2.2 b hb h1 h2))⟩⟩ ?_
    · simp [execOp, Act.eval, go_sem, h15, hy, e0, e1]
    · intro j u hj hr
      match j, hj, hr with
      | 0, _, hr => exact hr
      | 1, _, hr => exact hr
      | 2, _, hr => exact hr
      | 3, _, hr => exact hr
      | 4, _, hr => exact hr
      | 5, _, hr => exact hr
      | 6, _, hr => exact hr
      | 7, _, hr => exact hr
      | 8, _, hr => exact hr
      | 9, _, hr => exact hr
      | 10, _, hr => exact hr.imp fun la hr => hr.imp fun lc hr => ⟨hr.1, fun c => (by rw [show upB L 16 13 = L 13 from rfl, h13] at c; cases c)⟩
      | 11, _, hr => exact hr.imp fun la hr => hr.imp fun lc hr => ⟨hr.1, fun c => (by rw [show upB L 16 13 = L 13 from rfl, h13] at c; cases c)⟩
      | 12, _, hr => exact fun c => (by rw [show upB L 16 13 = L 13 from rfl, h13] at c; cases c)
      | 13, _, hr => exact fun c => (by rw [upB_self] at c; cases c)
      | 14, _, hr => exact hr
      | 15, _, hr => exact hr
      | 16, _, hr => trivial
      | _ + 17, _, hr => trivial
  intro L val V hL hg hR
  obtain ⟨q1, q2⟩ := hg.2 (hL 16 (by decide))
  go_wp2_with fail
  exact bodyPost_end (results_none rfl _ _ _) rfl ⟨rfl, q1, q2⟩
end Go.Proofs.YtjobdfgcgnpppaaDoor
