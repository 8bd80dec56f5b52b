/-
  end: a completion is noted in its transaction.
  The document's isList and filled; assayerplain's Why and Is.
  take: one event more, or its fault.
-/
import Derived.Test.YtjobdfgcgnpppaaDoorJ7
import Derived.Lib.SmallJoins
import Derived.Test.YtjobdfgcgnpppaaDoorJ5
namespace Go.Proofs.YtjobdfgcgnpppaaDoor
set_option linter.unusedVariables false
set_option linter.unusedSimpArgs false
open Go.RowKit Go.Lib Go.Maps

theorem state_is (ek : Int) (w : World) : Calls Tryd.prog 57 #[.int .i64 ek] w fun e w' => e = .returned (.int .i64 (staT ek)) ∧ w' = w := by
  unfold staT
  by_cases h2 : ek = 2
  · subst h2
    go_enter Tryd.func57, Tryd.ntmps57
    go_wp2_with fail
    go_ret
    exact ⟨rfl, rfl⟩
  · have q2 : (ek == (2 : Int)) = false := by simpa using h2
    by_cases h3 : ek = 3
    · subst h3
      go_enter Tryd.func57, Tryd.ntmps57
      go_wp2_with fail
      go_ret
      exact ⟨rfl, rfl⟩
    · have q3 : (ek == (3 : Int)) = false := by simpa using h3
      rw [if_neg h2, if_neg h3]
      clear h2 h3
      go_enter Tryd.func57, Tryd.ntmps57
      go_wp2_with fail
      go_ret
      exact ⟨rfl, rfl⟩
theorem own_put {w : World} {B e size g n cap : Nat} {xs : List Value} (h : w.ownsRow B e size (.slice (some ⟨g, 0, none⟩) n cap) n xs) (j : Nat) (hj : j < n * size) (u : Value) : (w.setCell ⟨g, j, none⟩ u).ownsRow B e size (.slice (some ⟨g, 0, none⟩) n cap) n (xs.set j u) := by
  refine ⟨by rw [List.length_set]; exact h.1, ?_⟩
  rcases h.2 with ⟨hv, _⟩ | ⟨g', cap', cur, hv, hB, hh, hc, hm, hs, ht⟩
  · cases hv
  · injection hv with a1 _ a3
    injection a1 with a1
    injection a1 with a1
    subst a1
    subst a3
    refine .inr ⟨g, cap, cur.setIfInBounds j u, rfl, hB, Go.Joins.block_setCell hh u, hc, hm, by simpa using hs, ?_⟩
    rw [← ht]
    simp [Array.toList_setIfInBounds, List.take_set]
theorem flatten_put {α : Type} (k : Nat) : ∀ (rows : List (List α)) (T i : Nat) (u : α), (∀ r ∈ rows, r.length = k) → T < rows.length → i < k → rows.flatten.set (T * k + i) u = (rows.set T ((rows.getD T []).set i u)).flatten
  | [], T, i, u, _, h, _ => by simp at h
  | r :: rows, 0, i, u, h, _, hi => by
    have hr := h r (by simp)
    simp only [List.flatten_cons, Nat.zero_mul, Nat.zero_add, List.set_cons_zero]
    rw [List.set_append_left _ _ (by omega)]
    simp
  | r :: rows, T + 1, i, u, h, hT, hi => by
    have hr := h r (by simp)
    have ih := flatten_put k rows T i u (fun x hx => h x (by simp [hx])) (by simpa using hT) hi
    simp only [List.flatten_cons, List.set_cons_succ]
    rw [List.set_append_right _ _ (by rw [hr, Nat.add_mul]; omega), hr, show (T + 1) * k + i - k = T * k + i by rw [Nat.add_mul]; omega, ih]
    simp
theorem getD_set_row {α : Type} (rows : List (List α)) (T : Nat) (r : List α) (hT : T < rows.length) : (rows.set T r).getD T [] = r := by simp [List.getD, hT]
theorem set_sizes {α : Type} {k : Nat} {rows : List (List α)} {T : Nat} {r : List α} (h : ∀ x ∈ rows, x.length = k) (hr : r.length = k) : ∀ x ∈ rows.set T r, x.length = k := fun x hx => by
  rcases List.mem_or_eq_of_mem_set hx with c | c
  · exact h x c
  · rw [c]; exact hr
/-- Three cells of a transaction are written. -/
theorem OutInv.three {B n g tc T : Nat} {w V : World} {rows : List (List Value)} {l : List MTx} {a b c d a2 b2 : Int} {ov nv : Value} {O : List MOp} (h : OutInv 44 5 TxR B w (.slice (some ⟨g, 0, none⟩) n tc) n rows l) (hT : T < n) (hb : Below w.heap.size w V) (hrow : rows.getD T [] = [.int .i64 a, .int .i64 b, .int .i64 c, .int .i64 d, ov]) (hnv : OpsOwn (fun x => w.heap.size ≤ x) V nv O) :
    OutInv 44 5 TxR B (((V.setCell ⟨g, T * 5 + 1, none⟩ (.int .i64 a2)).setCell ⟨g, T * 5 + 3, none⟩ (.int .i64 b2)).setCell ⟨g, T * 5 + 4, none⟩ nv) (.slice (some ⟨g, 0, none⟩) n tc) n (rows.set T [.int .i64 a, .int .i64 a2, .int .i64 c, .int .i64 b2, nv]) (l.set T (a, a2, c, b2, O)) := by
  have hg := h.own.lt g rfl
  have hTr : T < rows.length := by rw [h.rn]; exact hT
  have blk : ∀ x, x ≠ g → (((V.setCell ⟨g, T * 5 + 1, none⟩ (.int .i64 a2)).setCell ⟨g, T * 5 + 3, none⟩ (.int .i64 b2)).setCell ⟨g, T * 5 + 4, none⟩ nv).heap[x]? = V.heap[x]? := fun x hx => (set_ne hx).trans ((set_ne hx).trans (set_ne hx))
  have s0 : ∀ r ∈ rows, r.length = 5 := h.sizes
  have o1 := own_put (h.own3 hb) (T * 5 + 1) (by omega) (.int .i64 a2)
  rw [flatten_put 5 rows T 1 _ s0 hTr (by decide), hrow] at o1
  replace o1 : (V.setCell ⟨g, T * 5 + 1, none⟩ (.int .i64 a2)).ownsRow B 44 5 (.slice (some ⟨g, 0, none⟩) n tc) n (rows.set T [.int .i64 a, .int .i64 a2, .int .i64 c, .int .i64 d, ov]).flatten := o1
  have s1 := set_sizes (T := T) (r := [.int .i64 a, .int .i64 a2, .int .i64 c, .int .i64 d, ov]) s0 rfl
  have o2 := own_put o1 (T * 5 + 3) (by omega) (.int .i64 b2)
  rw [flatten_put 5 _ T 3 _ s1 (by rw [List.length_set]; exact hTr) (by decide), getD_set_row _ _ _ hTr, List.set_set] at o2
  replace o2 : ((V.setCell ⟨g, T * 5 + 1, none⟩ (.int .i64 a2)).setCell ⟨g, T * 5 + 3, none⟩ (.int .i64 b2)).ownsRow B 44 5 (.slice (some ⟨g, 0, none⟩) n tc) n (rows.set T [.int .i64 a, .int .i64 a2, .int .i64 c, .int .i64 b2, ov]).flatten := o2
  have s2 := set_sizes (T := T) (r := [.int .i64 a, .int .i64 a2, .int .i64 c, .int .i64 b2, ov]) s0 rfl
  have o3 := own_put o2 (T * 5 + 4) (by omega) nv
  rw [flatten_put 5 _ T 4 _ s2 (by rw [List.length_set]; exact hTr) (by decide), getD_set_row _ _ _ hTr, List.set_set] at o3
  refine ⟨by rw [List.length_set]; exact h.rn, by rw [List.length_set]; exact h.ln, o3, set_sizes s0 rfl, fun j hj => ?_⟩
  by_cases e : T = j
  · subst e
    rw [getD_set_row _ _ _ hTr, getD_set_new (by rw [h.ln]; exact hT)]
    refine ⟨nv, rfl, hnv.keep (fun x hx _ => blk x (by omega)) (fun x _ hx => ⟨by omega, fun c => ?_⟩)⟩
    injection c with c
    have c' : g = x := c
    omega
  · have e1 : (rows.set T [.int .i64 a, .int .i64 a2, .int .i64 c, .int .i64 b2, nv]).getD j [] = rows.getD j [] := by simp [List.getD, List.getElem?_set_ne e]
    rw [e1, getD_set_old e]
    exact txR_keep _ _ _ _ _ _ (h.each j hj) (fun x hx hl => (blk x (fun c => hx.2 (by rw [c]; rfl))).trans (hb.block x hl)) (fun x _ hx => hx)
/-- What a completion leaves open. -/
theorem OM.drop {w' : World} {ob m : Nat} {l : List MEv} {k : Nat} {ek p : Int} {O : List MOp} (hE : l.getD k default = (ek, p, O)) (hek : ek ≠ 1) {f g : Value → Option Value} (hf2 : ∀ q : Int, f (.int .i64 q) = (opnP l k q).map fun i => .int .i64 (invN l i : Int)) (hp : IsDrop f (.int .i64 p) g) (hm : MapV w' Tryd.prog 3 ob m g) : OM w' ob m l (k + 1) := by
  refine ⟨g, hm, fun q => ?_⟩
  unfold opnP
  rw [hE]
  by_cases e : p = q
  · subst e
    rw [hp.1]
    simp [MEv.proc, MEv.kind, hek]
  · rw [hp.2 _ (fun c => e (by injection c with _ c; exact c.symm)), hf2 q]
    simp [MEv.proc, e]
/-- What lies behind the last store. -/
theorem PT.ended {W1 V : World} {B pb ob hb m : Nat} {l : List MEv} {k p i : Nat} {ek : Int} {O : List MOp} {v : Value} {rows : List (List Value)} (hpb : pb < B) (hob : ob < B) (hhb : hb < B) (hB : B ≤ W1.heap.size) (n1 : pb ≠ ob) (n2 : pb ≠ hb) (n3 : ob ≠ hb) (hE : l.getD k default = (ek, (p : Int), O)) (hek : ek ≠ 1) (hop : opnP l k (p : Int) = some i) (hp : p < 100)
    (c1 : W1.cell? ⟨pb, 1, none⟩ = some (.map (some ob))) (gone : ∀ p : Nat, p < 100 → W1.cell? ⟨pb, 2 + p, none⟩ = some (.bool (goneP l k p))) (c2 : W1.cell? ⟨pb, 102, none⟩ = some (.map (some hb))) (c0 : W1.cell? ⟨pb, 0, none⟩ = some v) (soft : ∀ o, W1.frozen? ⟨pb, o, none⟩ = false)
    (hm : m ≤ k) (hom : OM W1 ob m l (k + 1)) (hsz : W1.heap.size ≤ V.heap.size) (hV : ∀ b, b < B → V.heap[b]? = W1.heap[b]?) (hout : OutInv 44 5 TxR B V v (invN l k) rows ((txL l k).set (invN l i) ((p : Int), staT ek, (i : Int), (k : Int), O))) : PT (V.setCell ⟨pb, 2 + p, none⟩ (.bool (ek == 4))) B pb ob hb l (k + 1) := by
  have ep := hV pb hpb
  have other : ∀ o u, o ≠ 2 + p → W1.cell? ⟨pb, o, none⟩ = some u → (V.setCell ⟨pb, 2 + p, none⟩ (.bool (ek == 4))).cell? ⟨pb, o, none⟩ = some u := fun o u ho hu => (World.cell?_setCell_other _ _ _ _ (fun c => ho (by have := congrArg Addr.off c; simpa using this.symm))).trans (cell_same ep hu)
  have blk : ∀ b, b ≠ pb → (V.setCell ⟨pb, 2 + p, none⟩ (.bool (ek == 4))).heap[b]? = V.heap[b]? := fun b hb => set_ne hb
  refine ⟨hpb, hob, hhb, ?_, n1, n2, n3, other 1 _ (by omega) c1, fun q hq => ?_, other 102 _ (by omega) c2, fun o => ?_, ⟨m, by omega, hom.same ((blk ob n1.symm).trans (hV ob hob))⟩, v, rows, other 0 _ (by omega) c0, ?_⟩
  · simp [World.setCell]; omega
  · have eg : goneP l (k + 1) (q : Int) = if (p : Int) = (q : Int) then ek == 4 else goneP l k q := by
      show (if (l.getD k default).proc = (q : Int) then (l.getD k default).kind == 4 else goneP l k q) = _
      rw [hE]
    by_cases e : q = p
    · subst e
      rw [eg, if_pos rfl]
      exact World.cell?_setCell_same _ _ _ (cell_same ep (gone q hq))
    · rw [eg, if_neg (by omega)]
      exact other (2 + q) _ (by omega) (gone q hq)
  · rw [World.frozen?_setCell]
    exact (frozen_same ep o).trans (soft o)
  · have e1 : invN l (k + 1) = invN l k := by rw [invN_succ, hE, if_neg hek]
    have e2 : txL l (k + 1) = (txL l k).set (invN l i) ((p : Int), staT ek, (i : Int), (k : Int), O) := by
      show (if (l.getD k default).kind = 1 then _ else match opnP l k (l.getD k default).proc with | none => _ | some i => _) = _
      rw [hE, if_neg hek]
      simp only [MEv.proc, hop]
    rw [e1, e2]
    exact hout.stay txR_keep (fun b hl hb => blk b (by omega))
/-- The transactions with one completed, all else of W1 as it was. -/
def EndB (B : Nat) (W1 V : World) (l : List MEv) (k p i : Nat) (ek : Int) (O : List MOp) (v : Value) : Prop :=
  ∃ rows, OutInv 44 5 TxR B V v (invN l k) rows ((txL l k).set (invN l i) ((p : Int), staT ek, (i : Int), (k : Int), O)) ∧ W1.heap.size ≤ V.heap.size ∧ V.os = W1.os ∧ V.tape = W1.tape ∧ V.output = W1.output ∧ ∀ b, b < W1.heap.size → v.ownBlock ≠ some b → V.heap[b]? = W1.heap[b]?
/-- Two stores of three. -/
def stL (g T : Nat) (s k : Int) (a b : Bool) (V : World) : World := if a then (if b then (V.setCell ⟨g, T * 5 + 1, none⟩ (.int .i64 s)).setCell ⟨g, T * 5 + 3, none⟩ (.int .i64 k) else V.setCell ⟨g, T * 5 + 1, none⟩ (.int .i64 s)) else V
set_option maxHeartbeats 8000000 in
set_option maxRecDepth 100000 in
theorem end_is {S : Nat → Prop} (w : World) (B pb ob hb : Nat) (l : List MEv) (k p i : Nat) (ek : Int) (O : List MOp) (v : Value) (h : PT w B pb ob hb l k) (hE : l.getD k default = (ek, (p : Int), O)) (hek : ek ≠ 1) (hp : p < 100) (hkb : k ≤ 100000) (hop : opnP l k (p : Int) = some i) (hv : OpsIn S w v O) (hS : ∀ b, S b → b ≠ ob) (hks : ∀ o ∈ O, o.key.size ≤ 281474976710656) :
    Calls Tryd.prog 46 #[.pointer (some ⟨pb, 0, none⟩), .int .i64 (k : Int), .agg #[.int .i64 ek, .int .i64 (p : Int), v]] w fun e w' => e = .returned (.tuple #[]) ∧ PT w' B pb ob hb l (k + 1) ∧ KB B pb ob w w' := by
  obtain ⟨W, hW⟩ : ∃ W, w.alloc (.cells #[.int .i64 ek, .int .i64 (p : Int), v] 42) = W := ⟨_, rfl⟩
  have BW1 : Hid (Below w.heap.size w W) := by rw [← hW]; exact below_box w _
  obtain ⟨xb, hxb⟩ : ∃ xb, w.heap.size = xb := ⟨_, rfl⟩
  have x0 : W.cell? ⟨xb, 0, none⟩ = some (.int .i64 ek) := by rw [← hW, ← hxb]; exact new_cells w _ 42 0
  have x1 : W.cell? ⟨xb, 1, none⟩ = some (.int .i64 (p : Int)) := by rw [← hW, ← hxb]; exact new_cells w _ 42 1
  have x2 : W.cell? ⟨xb, 2, none⟩ = some v := by rw [← hW, ← hxb]; exact new_cells w _ 42 2
  have hxl : xb < W.heap.size := World.block_lt_of_cell? _ _ x1
  have P1 := h.keep BW1.out.size (fun b hb _ => BW1.out.block b hb)
  obtain ⟨m, hmk, f, hf, hf2⟩ := P1.opn
  obtain ⟨tv, rows, c0w, houtw⟩ := h.tx
  have c0 := cell_later BW1.out c0w
  have hout := houtw.later txR_keep BW1.out
  have hat := opnP_at hop
  have hTl : invN l i < invN l k := invN_lt hat.1 hat.2.2
  obtain ⟨ta, tc, rfl⟩ := own_slice hout.own
  obtain ⟨g, rfl, hgB, hgl0⟩ : ∃ g, ta = some ⟨g, 0, none⟩ ∧ B ≤ g ∧ g < w.heap.size := by
    rcases houtw.own.2 with ⟨_, hn⟩ | ⟨g, cap, cur, hv, hg, hh, _⟩
    · omega
    · injection hv with a1
      exact ⟨g, a1, hg, blt hh⟩
  have hgl : g < W.heap.size := Nat.lt_of_lt_of_le hgl0 BW1.out.size
  have hrow0 := hout.each (invN l i) hTl
  rw [txL_open hop] at hrow0
  obtain ⟨ov, hrow, hov⟩ := hrow0
  obtain ⟨oa, oc, rfl, _⟩ := id hov
  have hcells : ∀ q u, ([.int .i64 (p : Int), .int .i64 3, .int .i64 (i : Int), .int .i64 (-1), .slice oa (l.getD i default).ops.length oc] : List Value)[q]? = some u → W.cell? ⟨g, invN l i * 5 + q, none⟩ = some u := fun q u hq => by
    have hq5 : q < 5 := by have := (List.getElem?_eq_some_iff.1 hq).1; simpa using this
    have := hout.own.cells (g := g) rfl (invN l i * 5 + q) u (by rw [flatten_get 5 rows _ _ hout.sizes (by rw [hout.rn]; exact hTl) hq5, hrow]; exact hq)
    rw [Addr.add_lit] at this
    simpa using this
  have lk : ∀ n, (Instr.lookup 63 (.map (some ob)) (.int .i64 (p : Int)) false).run Tryd.prog (W.drewN n) = .ok (.int .i64 (invN l i : Int)) (W.drewN n) := fun n => by
    rw [(hf.same (w' := W.drewN n) rfl).look keys3 Tryd.underlying63 (zero3 _) (key3 p hp), hf2, hop]
    rfl
  have k1 := P1.c1
  have hle := invN_le l k
  have hil : (invN l i : Int) < (invN l k : Int) := by omega
  have hcap : invN l k ≤ tc := by
    rcases hout.own.2 with ⟨_, hn⟩ | ⟨g', cap, cur, hv, hg, hh, hc, _⟩
    · omega
    · injection hv with _ _ a3
      omega
  have DROP : Hid (∀ W0 : World, W0.heap[ob]? = W.heap[ob]? → ∃ W1 g1, (Builtin.delete_ #[63, 3] 0 #[.map (some ob), .int .i64 (p : Int)]).run Tryd.prog W0 = .ok (.tuple #[]) W1 ∧ IsDrop f (.int .i64 (p : Int)) g1 ∧ MapV W1 Tryd.prog 3 ob m g1 ∧ W0.grownBy W1 (some ob)) := fun W0 h0 => MapV.drop (hf.same h0) keys3 Tryd.underlying63 (key3 p hp) 0
  go_enter Tryd.func46, Tryd.ntmps46
  go_wp2_with fail
  clear hW
  go_quiet (fail)
  rename Nat => n1
  generalize hW0 : W.drewN n1 = W0
  have BW0 : Hid (Below W.heap.size W W0) := by rw [← hW0]; exact below_drewN (Below.refl _ _) _
  have BW0b : Hid (∀ b : Nat, W0.heap[b]? = W.heap[b]?) := by intro b; rw [← hW0]; rfl
  have ESZ : Hid (W0.heap.size = W.heap.size) := by show _ = _; rw [← hW0]; rfl
  clear hW0
  obtain ⟨W1, g1, hrun, hdrop, hm1, hg1⟩ := DROP.out W0.drew (BW0b.out ob)
  have OM1 := hid (OM.drop hE hek hf2 hdrop hm1)
  have blk1 : ∀ b, b < W.heap.size → b ≠ ob → W1.heap[b]? = W.heap[b]? := fun b hl hn => (hg1.block b (show b < W0.heap.size by rw [ESZ.out]; exact hl) (fun e => hn (by injection e))).trans (BW0b.out b)
  have hxo : xb ≠ ob := by have := P1.hob; have := h.hB; omega
  have hpl : pb < W.heap.size := Nat.lt_of_lt_of_le P1.hpb P1.hB
  have kp := blk1 pb hpl P1.n1
  have kx := blk1 xb hxl hxo
  have hgo : g ≠ ob := by have := P1.hob; omega
  have hgx : g ≠ xb := by omega
  have kg := blk1 g hgl hgo
  have l1 := cell_later BW0.out k1
  have lx1 := cell_later BW0.out x1
  have z0 := cell_same kx x0
  have z1 := cell_same kx x1
  have z2 := cell_same kx x2
  have w1 := cell_same kg (hcells 1 _ rfl)
  have w3 := cell_same kg (hcells 3 _ rfl)
  have w4 := cell_same kg (hcells 4 _ rfl)
  have HK1 := hid (cell_same kp P1.c1)
  have HG : Hid (∀ p : Nat, p < 100 → W1.cell? ⟨pb, 2 + p, none⟩ = some (.bool (goneP l k p))) := fun q hq => cell_same kp (P1.gone q hq)
  have HK2 := hid (cell_same kp P1.c2)
  have Y0 := hid (cell_same kp c0)
  have HSO : Hid (∀ o, W1.frozen? ⟨pb, o, none⟩ = false) := fun o => (frozen_same kp o).trans (P1.soft o)
  have hsz1 : W.heap.size ≤ W1.heap.size := by have : W0.heap.size ≤ W1.heap.size := hg1.size; rw [ESZ.out] at this; exact this
  have HOUT : Hid (OutInv 44 5 TxR B W1 (.slice (some ⟨g, 0, none⟩) (invN l k) tc) (invN l k) rows (txL l k)) := hout.stay txR_keep (fun b hl hB => blk1 b hl (by have := P1.hob; omega))
  have GF : Hid (∀ o, W1.frozen? ⟨g, o, none⟩ = false) := fun o => by
    rcases HOUT.out.own.2 with ⟨hv, _⟩ | ⟨g', cap, cur, hv, hg, hh, _⟩
    · cases hv
    · injection hv with a1
      injection a1 with a1
      injection a1 with a1
      rw [a1]
      exact Lib.frozen_of_heap hh o
  have HB1 : Hid (B ≤ W1.heap.size) := Nat.le_trans P1.hB hsz1
  have hg1l : g < W1.heap.size := Nat.lt_of_lt_of_le hgl hsz1
  have HKB : Hid (KB B pb ob w W1) := ⟨hg1.os.trans (BW0.out.os.trans BW1.out.os), hg1.tape.trans (BW0.out.tape.trans BW1.out.tape), hg1.output.trans (BW0.out.output.trans BW1.out.output), Nat.le_trans BW1.out.size hsz1, fun b hb h1 h2 => by
    have hbw : b < w.heap.size := Nat.lt_of_lt_of_le hb h.hB
    exact (blk1 b (Nat.lt_of_lt_of_le hbw BW1.out.size) h2).trans (BW1.out.block b hbw)⟩
  have CP : Hid (∀ V, Below W1.heap.size W1 V → Calls Tryd.prog 56 #[v] V fun e w' => ∃ v', e = .returned v' ∧ OpsOwn (fun b => W1.heap.size ≤ b) w' v' O ∧ Below V.heap.size V w') := fun V hV => by
    have hv1 : OpsIn Any W1 v O := hv.keep (fun b hs hb => (blk1 b (Nat.lt_of_lt_of_le hb BW1.out.size) (hS b hs)).trans (BW1.out.block b hb)) (fun _ _ _ => trivial)
    exact (copy_is v O V (hv1.below hV) hks).mono fun e w' ⟨v', h1, h2, h3⟩ => ⟨v', h1, h2.keep (fun _ _ _ => rfl) (fun b _ hb => Nat.le_trans hV.size hb), h3⟩
  have PTE := hid (fun (V : World) (rows' : List (List Value)) => PT.ended (W1 := W1) (V := V) (rows := rows') (hb := hb) P1.hpb P1.hob P1.hhb HB1.out P1.n1 P1.n2 P1.n3 hE hek hop hp HK1.out HG.out HK2.out Y0.out HSO.out hmk OM1.out)
  have HROW := hid hrow
  have HPB := hid P1.hpb
  have hpi : (p : Int) < 100 := by omega
  have hxW : xb < W1.heap.size := Nat.lt_of_lt_of_le hxl hsz1
  obtain ⟨T, hTe⟩ : ∃ T, invN l i = T := ⟨_, rfl⟩
  rw [hTe] at w1 w3 w4 hTl HROW hil
  clear hf hf2 hdrop hm1 hout houtw c0w P1 hv hks h hrow hov hcells lk k1 c0 x0 x1 x2 DROP
  go_wp2_with fail
  refine wp_region_gen Tryd.mixedOrders (by kernel_rfl) (fun val => { tmps := #[_, _, _, _, _, _, _, _, _, _, _, _, _, _, _, _, _, _, _, val 0, val 1, val 2, val 3, val 4, val 5, _, _, _, _, _, _, _, _, _, _, _, _, _, _, _, _, _, _, _, _, _, _, _, _, _], defers := [] }) (fun i => match i with | 0 => undef | 1 => undef | 2 => undef | 3 => undef | 4 => undef | 5 => undef | 6 => undef | _ => undef) rfl (fun L V => V = if L 6 = true then W1 else W0.drew) (fun L i y V => match i with | 0 => y = .pointer (some ⟨pb, 0, none⟩) | 1 => y = .pointer (some ⟨pb, 0, none⟩) | 2 => y = .pointer (some ⟨pb, 1, none⟩) | 3 => y = .map (some ob) | 4 => y = .pointer (some ⟨xb, 1, none⟩) | 5 => y = .int .i64 (p : Int) | 6 => True | _ => True) rfl _ rfl ⟨?_, ?_, ?_, ?_, ?_, ?_, ?_, trivial⟩ ?_
  · refine gen_plain rfl (fun _ _ => rfl) (fun L val V hc hi hu hg hd => ?_)
    refine gdoes_value (v := .pointer (some ⟨pb, 0, none⟩)) ?_ rfl hg (fun j u hj hr => hr)
    simp [execOp, Act.eval, go_sem]
  · refine gen_plain rfl (fun _ _ => rfl) (fun L val V hc hi hu hg hd => ?_)
    have h0 : val 0 = .pointer (some ⟨pb, 0, none⟩) := depsG_get hd 0 (by kernel_rfl)
    refine gdoes_value (v := .pointer (some ⟨pb, 0, none⟩)) ?_ rfl hg (fun j u hj hr => hr)
    simp [execOp, Act.eval, go_sem, h0]
  · refine gen_plain rfl (fun _ _ => rfl) (fun L val V hc hi hu hg hd => ?_)
    have h1 : val 1 = .pointer (some ⟨pb, 0, none⟩) := depsG_get hd 1 (by kernel_rfl)
    refine gdoes_value (v := .pointer (some ⟨pb, 1, none⟩)) ?_ rfl hg (fun j u hj hr => hr)
    simp [execOp, Act.eval, go_sem, h1]
  · refine gen_plain rfl (fun _ _ => rfl) (fun L val V hc hi hu hg hd => ?_)
    have h2 : val 2 = .pointer (some ⟨pb, 1, none⟩) := depsG_get hd 2 (by kernel_rfl)
    have hV : V = W0.drew := by have q : L 6 = false := wants_back hc 7 6 3 (by kernel_rfl) hi; simpa [q] using hg
    have e2 : V.cell? ⟨pb, 1, none⟩ = some (.map (some ob)) := by rw [hV]; exact l1
    refine gdoes_value (v := .map (some ob)) ?_ rfl hg (fun j u hj hr => hr)
    simp [execOp, Act.eval, go_sem, h2, e2]
  · refine gen_plain rfl (fun _ _ => rfl) (fun L val V hc hi hu hg hd => ?_)
    refine gdoes_value (v := .pointer (some ⟨xb, 1, none⟩)) ?_ rfl hg (fun j u hj hr => hr)
    simp [execOp, Act.eval, go_sem]
  · refine gen_plain rfl (fun _ _ => rfl) (fun L val V hc hi hu hg hd => ?_)
    have h4 : val 4 = .pointer (some ⟨xb, 1, none⟩) := depsG_get hd 4 (by kernel_rfl)
    have hV : V = W0.drew := by have q : L 6 = false := wants_back hc 7 6 5 (by kernel_rfl) hi; simpa [q] using hg
    have e2 : V.cell? ⟨xb, 1, none⟩ = some (.int .i64 (p : Int)) := by rw [hV]; exact lx1
    refine gdoes_value (v := .int .i64 (p : Int)) ?_ rfl hg (fun j u hj hr => hr)
    simp [execOp, Act.eval, go_sem, h4, e2]
  · refine gen_plain rfl (fun _ _ => rfl) (fun L val V hc hi hu hg hd => ?_)
    have h3 : val 3 = .map (some ob) := depsG_get hd 3 (by kernel_rfl)
    have h5 : val 5 = .int .i64 (p : Int) := depsG_get hd 5 (by kernel_rfl)
    have hV : V = W0.drew := by simpa [hi] using hg
    subst hV
    refine gdoes_turn (v := .tuple #[]) (w' := W1) ?_ trivial (by rw [if_pos (upB_self L 6)]) (fun j u hj hr => hr)
    simp [execOp, Act.eval, resolve, invoke, builtin, h3, h5, hrun, Result.andThen]
  intro L val V hL hg hR
  rw [if_pos (hL 6 (by decide))] at hg
  replace hg := hg.symm
  subst hg
  clear hR hL l1 lx1
  go_wp2_with fail
  refine wp_region_gen Tryd.mixedOrders (by kernel_rfl) (fun val => { tmps := #[_, _, _, _, _, _, _, _, _, _, _, _, _, _, _, _, _, _, _, _, _, _, _, _, _, val 0, val 1, val 2, val 3, val 4, val 5, val 6, val 7, val 8, val 9, val 10, val 11, val 13, val 14, val 16, val 17, _, _, _, _, _, _, _, _, _], defers := [] }) (fun i => match i with | 0 => undef | 1 => undef | 2 => undef | 3 => undef | 4 => undef | 5 => undef | 6 => undef | 7 => undef | 8 => undef | 9 => undef | 10 => undef | 11 => undef | 12 => undef | 13 => undef | 14 => undef | 15 => undef | 16 => undef | 17 => undef | 18 => undef | _ => undef) rfl (fun L V => (L 18 = false → ∃ V9, Below W1.heap.size W1 V9 ∧ V = stL g T (staT ek) (k : Int) (L 12) (L 15) V9) ∧ (L 18 = true → EndB B W1 V l k p i ek O (.slice (some ⟨g, 0, none⟩) (invN l k) tc))) (fun L i y V => match i with | 0 => y = .pointer (some ⟨g, T * 5, none⟩) | 1 => y = .pointer (some ⟨g, T * 5, none⟩) | 2 => y = .pointer (some ⟨g, T * 5, none⟩) | 3 => y = .pointer (some ⟨xb, 0, none⟩) | 4 => y = .int .i64 ek | 5 => y = .int .i64 (staT ek) | 6 => y = .int .i64 (k : Int) | 7 => y = .pointer (some ⟨xb, 2, none⟩) | 8 => y = v | 9 => ∃ la lc, y = .slice la O.length lc ∧ OpsOwn (fun b => W1.heap.size ≤ b) V (.slice la O.length lc) O | 10 => y = .pointer (some ⟨g, T * 5, none⟩) | 11 => y = .pointer (some ⟨g, T * 5 + 1, none⟩) | 12 => True | 13 => y = .pointer (some ⟨g, T * 5, none⟩) | 14 => y = .pointer (some ⟨g, T * 5 + 3, none⟩) | 15 => True | 16 => y = .pointer (some ⟨g, T * 5, none⟩) | 17 => y = .pointer (some ⟨g, T * 5 + 4, none⟩) | 18 => True | _ => True) ⟨fun _ => ⟨W1.drew, below_drew (Below.refl _ _), rfl⟩, fun c => by cases c⟩ _ rfl ⟨?_, ?_, ?_, ?_, ?_, ?_, ?_, ?_, ?_, ?_, ?_, ?_, ?_, ?_, ?_, ?_, ?_, ?_, ?_, trivial⟩ ?_
  · refine gen_plain rfl (fun _ _ => rfl) (fun L val V hc hi hu hg hd => ?_)
    refine gdoes_value (v := .pointer (some ⟨g, T * 5, none⟩)) ?_ rfl hg (fun j u hj hr => hr)
    simp [execOp, Act.eval, go_sem]
  · refine gen_plain rfl (fun _ _ => rfl) (fun L val V hc hi hu hg hd => ?_)
    refine gdoes_value (v := .pointer (some ⟨g, T * 5, none⟩)) ?_ rfl hg (fun j u hj hr => hr)
    simp [execOp, Act.eval, go_sem]
  · refine gen_plain rfl (fun _ _ => rfl) (fun L val V hc hi hu hg hd => ?_)
    refine gdoes_value (v := .pointer (some ⟨g, T * 5, none⟩)) ?_ rfl hg (fun j u hj hr => hr)
    simp [execOp, Act.eval, go_sem]
  · refine gen_plain rfl (fun _ _ => rfl) (fun L val V hc hi hu hg hd => ?_)
    refine gdoes_value (v := .pointer (some ⟨xb, 0, none⟩)) ?_ rfl hg (fun j u hj hr => hr)
    simp [execOp, Act.eval, go_sem]
  · refine gen_plain rfl (fun _ _ => rfl) (fun L val V hc hi hu hg hd => ?_)
    have h3 : val 3 = .pointer (some ⟨xb, 0, none⟩) := depsG_get hd 3 (by kernel_rfl)
    have h12 : L 12 = false := wants_back hc 19 12 4 (by kernel_rfl) hi
    have h18 : L 18 = false := wants_back hc 19 18 4 (by kernel_rfl) hi
    have e2 : V.cell? ⟨xb, 0, none⟩ = some (.int .i64 ek) := by
      obtain ⟨V9, hB9, hV9⟩ := hg.1 h18
      rw [hV9, h12]
      exact cell_later hB9 z0
    refine gdoes_value (v := .int .i64 ek) ?_ rfl hg (fun j u hj hr => hr)
    simp [execOp, Act.eval, go_sem, h3, e2]
  · refine gen_plain rfl (fun _ _ => rfl) (fun L val V hc hi hu hg hd => ?_)
    have h4 : val 4 = .int .i64 ek := depsG_get hd 4 (by kernel_rfl)
    refine gdoes_call (f := 57) (args := #[.int .i64 ek]) ?_ (state_is ek V) ?_
    · simp [execOp, Act.eval, go_sem, resolve, invoke, h4]
    · rintro e w' ⟨rfl, rfl⟩
      exact ⟨_, rfl, rfl, hg, fun j u hj hr => hr⟩
  · refine gen_plain rfl (fun _ _ => rfl) (fun L val V hc hi hu hg hd => ?_)
    refine gdoes_value (v := .int .i64 (k : Int)) ?_ rfl hg (fun j u hj hr => hr)
    simp [execOp, Act.eval, go_sem]
  · refine gen_plain rfl (fun _ _ => rfl) (fun L val V hc hi hu hg hd => ?_)
    refine gdoes_value (v := .pointer (some ⟨xb, 2, none⟩)) ?_ rfl hg (fun j u hj hr => hr)
    simp [execOp, Act.eval, go_sem]
  · refine gen_plain rfl (fun _ _ => rfl) (fun L val V hc hi hu hg hd => ?_)
    have h7 : val 7 = .pointer (some ⟨xb, 2, none⟩) := depsG_get hd 7 (by kernel_rfl)
    have h12 : L 12 = false := wants_back hc 19 12 8 (by kernel_rfl) hi
    have h18 : L 18 = false := wants_back hc 19 18 8 (by kernel_rfl) hi
    have e2 : V.cell? ⟨xb, 2, none⟩ = some (v) := by
      obtain ⟨V9, hB9, hV9⟩ := hg.1 h18
      rw [hV9, h12]
      exact cell_later hB9 z2
    refine gdoes_value (v := v) ?_ rfl hg (fun j u hj hr => hr)
    simp [execOp, Act.eval, go_sem, h7, e2]
  · refine gen_plain rfl (fun _ _ => rfl) (fun L val V hc hi hu hg hd => ?_)
    have h8 : val 8 = v := depsG_get hd 8 (by kernel_rfl)
    have h12 : L 12 = false := wants_back hc 19 12 9 (by kernel_rfl) hi
    have h18 : L 18 = false := wants_back hc 19 18 9 (by kernel_rfl) hi
    obtain ⟨V9, hB9, hV9⟩ := hg.1 h18
    have hV : V = V9 := by rw [hV9, h12]; rfl
    subst hV
    refine gdoes_call (f := 56) (args := #[v]) ?_ (CP.out V hB9) ?_
    · simp [execOp, Act.eval, go_sem, resolve, invoke, h8]
    · rintro e w' ⟨v', rfl, ho, hb3⟩
      obtain ⟨la, lc, rfl, _⟩ := id ho
      refine ⟨_, rfl, ⟨la, lc, rfl, ho⟩, ⟨fun _ => ⟨w', bstep hb3 hB9, by rw [show upB L 9 12 = L 12 from rfl, h12]; rfl⟩, fun c => (by rw [show upB L 9 18 = L 18 from rfl, h18] at c; cases c)⟩, ?_⟩
      intro j u hj hr
      match j, hj, hr with
      | 0, _, hr => exact hr
      | 1, _, hr => exact hr
      | 2, _, hr => exact hr
      | 3, _, hr => exact hr
      | 4, _, hr => exact hr
      | 5, _, hr => exact hr
      | 6, _, hr => exact hr
      | 7, _, hr => exact hr
      | 8, _, hr => exact hr
      | 9, hj, _ => rw [hi] at hj; cases hj
      | 10, _, hr => exact hr
      | 11, _, hr => exact hr
      | 12, _, hr => exact hr
      | 13, _, hr => exact hr
      | 14, _, hr => exact hr
      | 15, _, hr => exact hr
      | 16, _, hr => exact hr
      | 17, _, hr => exact hr
      | 18, _, hr => exact hr
      | _ + 19, _, hr => exact hr
  · refine gen_plain rfl (fun _ _ => rfl) (fun L val V hc hi hu hg hd => ?_)
    have h0 : val 0 = .pointer (some ⟨g, T * 5, none⟩) := depsG_get hd 0 (by kernel_rfl)
    refine gdoes_value (v := .pointer (some ⟨g, T * 5, none⟩)) ?_ rfl hg (fun j u hj hr => hr)
    simp [execOp, Act.eval, go_sem, h0]
  · refine gen_plain rfl (fun _ _ => rfl) (fun L val V hc hi hu hg hd => ?_)
    have h10 : val 10 = .pointer (some ⟨g, T * 5, none⟩) := depsG_get hd 10 (by kernel_rfl)
    refine gdoes_value (v := .pointer (some ⟨g, T * 5 + 1, none⟩)) ?_ rfl hg (fun j u hj hr => hr)
    simp [execOp, Act.eval, go_sem, h10]
  · refine gen_plain rfl (fun _ _ => rfl) (fun L val V hc hi hu hg hd => ?_)
    have h11 : val 11 = .pointer (some ⟨g, T * 5 + 1, none⟩) := depsG_get hd 11 (by kernel_rfl)
    have h5 : val 5 = .int .i64 (staT ek) := depsG_get hd 5 (by kernel_rfl)
    have h18 : L 18 = false := wants_back hc 19 18 12 (by kernel_rfl) hi
    obtain ⟨V9, hB9, hV9⟩ := hg.1 h18
    have hV : V = V9 := by rw [hV9, hi]; rfl
    subst hV
    have h15 : L 15 = false := wants_back hc 19 15 12 (by kernel_rfl) hi
    have e1 := cell_later hB9 w1
    have e2 : V.frozen? ⟨g, T * 5 + 1, none⟩ = false := (hB9.frozen (p := ⟨g, T * 5 + 1, none⟩) hg1l).trans (GF.out _)
    refine gdoes_skip (w' := V.setCell ⟨g, T * 5 + 1, none⟩ (.int .i64 (staT ek))) ?_ trivial ⟨fun _ => ⟨V, hB9, by rw [upB_self, show upB L 12 15 = L 15 from rfl, h15]; rfl⟩, fun c => (by rw [show upB L 12 18 = L 18 from rfl, h18] at c; cases c)⟩ ?_
    · simp [execOp, Act.eval, go_sem, h11, h5, e1, e2]
    · intro j u hj hr
      match j, hj, hr with
      | 0, _, hr => exact hr
      | 1, _, hr => exact hr
      | 2, _, hr => exact hr
      | 3, _, hr => exact hr
      | 4, _, hr => exact hr
      | 5, _, hr => exact hr
      | 6, _, hr => exact hr
      | 7, _, hr => exact hr
      | 8, _, hr => exact hr
      | 9, hj, hr => exact hr.imp fun la hr => hr.imp fun lc hr => ⟨hr.1, hr.2.keep (fun b hb _ => set_ne (by have q1 : W1.heap.size ≤ b := hb; show b ≠ g; omega)) (fun _ _ h => h)⟩
      | 10, _, hr => exact hr
      | 11, _, hr => exact hr
      | 12, hj, _ => rw [hi] at hj; cases hj
      | 13, _, hr => exact hr
      | 14, _, hr => exact hr
      | 15, _, hr => exact hr
      | 16, _, hr => exact hr
      | 17, _, hr => exact hr
      | 18, _, hr => exact hr
      | _ + 19, _, hr => exact hr
  · refine gen_plain rfl (fun _ _ => rfl) (fun L val V hc hi hu hg hd => ?_)
    have h1 : val 1 = .pointer (some ⟨g, T * 5, none⟩) := depsG_get hd 1 (by kernel_rfl)
    refine gdoes_value (v := .pointer (some ⟨g, T * 5, none⟩)) ?_ rfl hg (fun j u hj hr => hr)
    simp [execOp, Act.eval, go_sem, h1]
  · refine gen_plain rfl (fun _ _ => rfl) (fun L val V hc hi hu hg hd => ?_)
    have h13 : val 13 = .pointer (some ⟨g, T * 5, none⟩) := depsG_get hd 13 (by kernel_rfl)
    refine gdoes_value (v := .pointer (some ⟨g, T * 5 + 3, none⟩)) ?_ rfl hg (fun j u hj hr => hr)
    simp [execOp, Act.eval, go_sem, h13]
  · refine gen_plain rfl (fun _ _ => rfl) (fun L val V hc hi hu hg hd => ?_)
    have h14 : val 14 = .pointer (some ⟨g, T * 5 + 3, none⟩) := depsG_get hd 14 (by kernel_rfl)
    have h6 : val 6 = .int .i64 (k : Int) := depsG_get hd 6 (by kernel_rfl)
    have h18 : L 18 = false := wants_back hc 19 18 15 (by kernel_rfl) hi
    have h12 := depsG_on hd 12 (by kernel_rfl)
    obtain ⟨V9, hB9, hV9⟩ := hg.1 h18
    have hV : V = V9.setCell ⟨g, T * 5 + 1, none⟩ (.int .i64 (staT ek)) := by rw [hV9, hi, h12]; rfl
    clear hV9
    have e1 : V.cell? ⟨g, T * 5 + 3, none⟩ = some (.int .i64 (-1)) := by rw [hV]; exact (World.cell?_setCell_other _ _ _ _ (fun c => by have := congrArg Addr.off c; simp only [] at this; omega)).trans (cell_later hB9 w3)
    have e2 : V.frozen? ⟨g, T * 5 + 3, none⟩ = false := by rw [hV, World.frozen?_setCell]; exact (hB9.frozen (p := ⟨g, T * 5 + 3, none⟩) hg1l).trans (GF.out _)
    refine gdoes_skip (w' := V.setCell ⟨g, T * 5 + 3, none⟩ (.int .i64 (k : Int))) ?_ trivial ⟨fun _ => ⟨V9, hB9, by rw [upB_self, show upB L 15 12 = L 12 from rfl, h12, hV]; rfl⟩, fun c => (by rw [show upB L 15 18 = L 18 from rfl, h18] at c; cases c)⟩ ?_
    · simp [execOp, Act.eval, go_sem, h14, h6, e1, e2]
    · intro j u hj hr
      match j, hj, hr with
      | 0, _, hr => exact hr
      | 1, _, hr => exact hr
      | 2, _, hr => exact hr
      | 3, _, hr => exact hr
      | 4, _, hr => exact hr
      | 5, _, hr => exact hr
      | 6, _, hr => exact hr
      | 7, _, hr => exact hr
      | 8, _, hr => exact hr
      | 9, hj, hr => exact hr.imp fun la hr => hr.imp fun lc hr => ⟨hr.1, hr.2.keep (fun b hb _ => set_ne (by have q1 : W1.heap.size ≤ b := hb; show b ≠ g; omega)) (fun _ _ h => h)⟩
      | 10, _, hr => exact hr
      | 11, _, hr => exact hr
      | 12, _, hr => exact hr
      | 13, _, hr => exact hr
      | 14, _, hr => exact hr
      | 15, hj, _ => rw [hi] at hj; cases hj
      | 16, _, hr => exact hr
      | 17, _, hr => exact hr
      | 18, _, hr => exact hr
      | _ + 19, _, hr => exact hr
  · refine gen_plain rfl (fun _ _ => rfl) (fun L val V hc hi hu hg hd => ?_)
    have h2 : val 2 = .pointer (some ⟨g, T * 5, none⟩) := depsG_get hd 2 (by kernel_rfl)
    refine gdoes_value (v := .pointer (some ⟨g, T * 5, none⟩)) ?_ rfl hg (fun j u hj hr => hr)
    simp [execOp, Act.eval, go_sem, h2]
  · refine gen_plain rfl (fun _ _ => rfl) (fun L val V hc hi hu hg hd => ?_)
    have h16 : val 16 = .pointer (some ⟨g, T * 5, none⟩) := depsG_get hd 16 (by kernel_rfl)
    refine gdoes_value (v := .pointer (some ⟨g, T * 5 + 4, none⟩)) ?_ rfl hg (fun j u hj hr => hr)
    simp [execOp, Act.eval, go_sem, h16]
  · refine gen_plain rfl (fun _ _ => rfl) (fun L val V hc hi hu hg hd => ?_)
    have h17 : val 17 = .pointer (some ⟨g, T * 5 + 4, none⟩) := depsG_get hd 17 (by kernel_rfl)
    obtain ⟨la, lc, h9, ho⟩ := depsG_get hd 9 (by kernel_rfl)
    have h15 := depsG_on hd 15 (by kernel_rfl)
    have h12 : L 12 = true := wants_done hc 19 15 12 (by kernel_rfl) h15
    obtain ⟨V9, hB9, hV9⟩ := hg.1 hi
    have hV : V = (V9.setCell ⟨g, T * 5 + 1, none⟩ (.int .i64 (staT ek))).setCell ⟨g, T * 5 + 3, none⟩ (.int .i64 (k : Int)) := by rw [hV9, h15, h12]; rfl
    clear hV9
    have e1 : V.cell? ⟨g, T * 5 + 4, none⟩ = some (.slice oa (l.getD i default).ops.length oc) := by rw [hV]; exact (World.cell?_setCell_other _ _ _ _ (fun c => by have := congrArg Addr.off c; simp only [] at this; omega)).trans ((World.cell?_setCell_other _ _ _ _ (fun c => by have := congrArg Addr.off c; simp only [] at this; omega)).trans (cell_later hB9 w4))
    have e2 : V.frozen? ⟨g, T * 5 + 4, none⟩ = false := by rw [hV, World.frozen?_setCell, World.frozen?_setCell]; exact (hB9.frozen (p := ⟨g, T * 5 + 4, none⟩) hg1l).trans (GF.out _)
    have ho9 : OpsOwn (fun b => W1.heap.size ≤ b) V9 (.slice la O.length lc) O := ho.keep (fun b hb _ => by rw [hV]; exact ((set_ne (show b ≠ g by omega)).trans (set_ne (show b ≠ g by omega))).symm) (fun _ _ h => h)
    have NEW := OutInv.three (a2 := staT ek) (b2 := (k : Int)) HOUT.out hTl hB9 HROW.out ho9
    refine gdoes_skip (w' := V.setCell ⟨g, T * 5 + 4, none⟩ (.slice la O.length lc)) ?_ trivial ⟨fun c => (by rw [upB_self] at c; cases c), fun _ => ⟨_, (by rw [hTe, hV]; exact NEW), (by rw [hV]; simpa [World.setCell] using hB9.size), (by rw [hV]; exact hB9.os), (by rw [hV]; exact hB9.tape), (by rw [hV]; exact hB9.output), fun b hb hn => ?_⟩⟩ ?_
    · simp [execOp, Act.eval, go_sem, h17, h9, e1, e2]
    · have hbg : b ≠ g := fun c => hn (by rw [c]; rfl)
      rw [hV]
      exact (set_ne hbg).trans ((set_ne hbg).trans ((set_ne hbg).trans (hB9.block b hb)))
    · intro j u hj hr
      match j, hj, hr with
      | 0, _, hr => exact hr
      | 1, _, hr => exact hr
      | 2, _, hr => exact hr
      | 3, _, hr => exact hr
      | 4, _, hr => exact hr
      | 5, _, hr => exact hr
      | 6, _, hr => exact hr
      | 7, _, hr => exact hr
      | 8, _, hr => exact hr
      | 9, hj, hr => exact hr.imp fun la hr => hr.imp fun lc hr => ⟨hr.1, hr.2.keep (fun b hb _ => set_ne (by have q1 : W1.heap.size ≤ b := hb; show b ≠ g; omega)) (fun _ _ h => h)⟩
      | 10, _, hr => exact hr
      | 11, _, hr => exact hr
      | 12, _, hr => exact hr
      | 13, _, hr => exact hr
      | 14, _, hr => exact hr
      | 15, _, hr => exact hr
      | 16, _, hr => exact hr
      | 17, _, hr => exact hr
      | 18, hj, _ => rw [hi] at hj; cases hj
      | _ + 19, _, hr => exact hr
  intro L val V3 hL hg hR
  obtain ⟨rows', q1, q2, q3, q4, q5, q6⟩ := hg.2 (hL 18 (by decide))
  have u0 := (cell_same (q6 xb hxW (fun c => hgx (by injection c))) z0)
  have u1 := (cell_same (q6 xb hxW (fun c => hgx (by injection c))) z1)
  have hNP : ∀ b, b < B → (Value.slice (some ⟨g, 0, none⟩) (invN l k) tc).ownBlock ≠ some b := fun b hb c => by injection c with c; have c' : g = b := c; omega
  have ug : V3.cell? ⟨pb, 2 + p, none⟩ = some (.bool (goneP l k p)) := cell_same (q6 pb (Nat.lt_of_lt_of_le HPB.out HB1.out) (hNP pb HPB.out)) (HG.out p hp)
  have uf : V3.frozen? ⟨pb, 2 + p, none⟩ = false := (frozen_same (q6 pb (Nat.lt_of_lt_of_le HPB.out HB1.out) (hNP pb HPB.out)) _).trans (HSO.out _)
  have FIN := hid (PTE.out V3.drew rows' q2 (fun b hb => q6 b (Nat.lt_of_lt_of_le hb HB1.out) (hNP b hb)) (q1.stay txR_keep (fun _ _ _ => rfl)))
  have KBF : Hid (KB B pb ob w (V3.drew.setCell ⟨pb, 2 + p, none⟩ (.bool (ek == 4)))) := ⟨q3.trans HKB.out.1, q4.trans HKB.out.2.1, q5.trans HKB.out.2.2.1, Nat.le_trans HKB.out.2.2.2.1 (by simpa [World.setCell] using q2), fun b hb h1 h2 => (set_ne h1).trans ((q6 b (Nat.lt_of_lt_of_le hb HB1.out) (hNP b hb)).trans (HKB.out.2.2.2.2 b hb h1 h2))⟩
  obtain ⟨gb, hgb⟩ : ∃ gb, (ek == (4 : Int)) = gb := ⟨_, rfl⟩
  rw [hgb] at FIN KBF
  clear hR hL hg q1 q2 q3 q4 q5 q6 z0 z1 z2 w1 w3 w4
  go_wp2_with fail
  refine wp_region_gen Tryd.mixedOrders (by kernel_rfl) (fun val => { tmps := #[_, _, _, _, _, _, _, _, _, _, _, _, _, _, _, _, _, _, _, _, _, _, _, _, _, _, _, _, _, _, _, _, _, _, _, _, _, _, _, _, _, val 0, val 1, val 2, val 3, val 4, val 5, val 6, val 7, val 8], defers := [] }) (fun i => match i with | 0 => undef | 1 => undef | 2 => undef | 3 => undef | 4 => undef | 5 => undef | 6 => undef | 7 => undef | 8 => undef | 9 => undef | _ => undef) rfl (fun L V => V = if L 9 = true then V3.drew.setCell ⟨pb, 2 + p, none⟩ (.bool gb) else V3.drew) (fun L i y V => match i with | 0 => y = .pointer (some ⟨pb, 0, none⟩) | 1 => y = .pointer (some ⟨xb, 1, none⟩) | 2 => y = .int .i64 (p : Int) | 3 => y = .pointer (some ⟨xb, 0, none⟩) | 4 => y = .int .i64 ek | 5 => y = .bool gb | 6 => y = .pointer (some ⟨pb, 0, none⟩) | 7 => y = .pointer (some ⟨pb, 2, none⟩) | 8 => y = .pointer (some ⟨pb, 2 + p, none⟩) | 9 => True | _ => True) rfl _ rfl ⟨?_, ?_, ?_, ?_, ?_, ?_, ?_, ?_, ?_, ?_, trivial⟩ ?_
  · refine gen_plain rfl (fun _ _ => rfl) (fun L val V hc hi hu hg hd => ?_)
    refine gdoes_value (v := .pointer (some ⟨pb, 0, none⟩)) ?_ rfl hg (fun j u hj hr => hr)
    simp [execOp, Act.eval, go_sem]
  · refine gen_plain rfl (fun _ _ => rfl) (fun L val V hc hi hu hg hd => ?_)
    refine gdoes_value (v := .pointer (some ⟨xb, 1, none⟩)) ?_ rfl hg (fun j u hj hr => hr)
    simp [execOp, Act.eval, go_sem]
  · refine gen_plain rfl (fun _ _ => rfl) (fun L val V hc hi hu hg hd => ?_)
    have h1 : val 1 = .pointer (some ⟨xb, 1, none⟩) := depsG_get hd 1 (by kernel_rfl)
    have hV : V = V3.drew := by have q : L 9 = false := wants_back hc 10 9 2 (by kernel_rfl) hi; simpa [q] using hg
    have e2 : V.cell? ⟨xb, 1, none⟩ = some (.int .i64 (p : Int)) := by rw [hV]; exact u1
    refine gdoes_value (v := .int .i64 (p : Int)) ?_ rfl hg (fun j u hj hr => hr)
    simp [execOp, Act.eval, go_sem, h1, e2]
  · refine gen_plain rfl (fun _ _ => rfl) (fun L val V hc hi hu hg hd => ?_)
    refine gdoes_value (v := .pointer (some ⟨xb, 0, none⟩)) ?_ rfl hg (fun j u hj hr => hr)
    simp [execOp, Act.eval, go_sem]
  · refine gen_plain rfl (fun _ _ => rfl) (fun L val V hc hi hu hg hd => ?_)
    have h3 : val 3 = .pointer (some ⟨xb, 0, none⟩) := depsG_get hd 3 (by kernel_rfl)
    have hV : V = V3.drew := by have q : L 9 = false := wants_back hc 10 9 4 (by kernel_rfl) hi; simpa [q] using hg
    have e2 : V.cell? ⟨xb, 0, none⟩ = some (.int .i64 ek) := by rw [hV]; exact u0
    refine gdoes_value (v := .int .i64 ek) ?_ rfl hg (fun j u hj hr => hr)
    simp [execOp, Act.eval, go_sem, h3, e2]
  · refine gen_plain rfl (fun _ _ => rfl) (fun L val V hc hi hu hg hd => ?_)
    have h4 : val 4 = .int .i64 ek := depsG_get hd 4 (by kernel_rfl)
    refine gdoes_value (v := .bool gb) ?_ rfl hg (fun j u hj hr => hr)
    simp [execOp, Act.eval, go_sem, h4, hgb]
  · refine gen_plain rfl (fun _ _ => rfl) (fun L val V hc hi hu hg hd => ?_)
    have h0 : val 0 = .pointer (some ⟨pb, 0, none⟩) := depsG_get hd 0 (by kernel_rfl)
    refine gdoes_value (v := .pointer (some ⟨pb, 0, none⟩)) ?_ rfl hg (fun j u hj hr => hr)
    simp [execOp, Act.eval, go_sem, h0]
  · refine gen_plain rfl (fun _ _ => rfl) (fun L val V hc hi hu hg hd => ?_)
    have h6 : val 6 = .pointer (some ⟨pb, 0, none⟩) := depsG_get hd 6 (by kernel_rfl)
    refine gdoes_value (v := .pointer (some ⟨pb, 2, none⟩)) ?_ rfl hg (fun j u hj hr => hr)
    simp [execOp, Act.eval, go_sem, h6]
  · refine gen_plain rfl (fun _ _ => rfl) (fun L val V hc hi hu hg hd => ?_)
    have h7 : val 7 = .pointer (some ⟨pb, 2, none⟩) := depsG_get hd 7 (by kernel_rfl)
    have h2 : val 2 = .int .i64 (p : Int) := depsG_get hd 2 (by kernel_rfl)
    refine gdoes_value (v := .pointer (some ⟨pb, 2 + p, none⟩)) ?_ rfl hg (fun j u hj hr => hr)
    simp [execOp, Act.eval, go_sem, h7, h2, hpi]
  · refine gen_plain rfl (fun _ _ => rfl) (fun L val V hc hi hu hg hd => ?_)
    have h8 : val 8 = .pointer (some ⟨pb, 2 + p, none⟩) := depsG_get hd 8 (by kernel_rfl)
    have h5 : val 5 = .bool gb := depsG_get hd 5 (by kernel_rfl)
    have hV : V = V3.drew := by simpa [hi] using hg
    subst hV
    have e1 : V3.drew.cell? ⟨pb, 2 + p, none⟩ = some (.bool (goneP l k p)) := ug
    have e2 : V3.drew.frozen? ⟨pb, 2 + p, none⟩ = false := uf
    refine gdoes_skip (w' := V3.drew.setCell ⟨pb, 2 + p, none⟩ (.bool gb)) ?_ trivial (by rw [if_pos (upB_self L 9)]) (fun j u hj hr => hr)
    simp [execOp, Act.eval, go_sem, h8, h5, e1, e2]
  intro L val V hL hg hR
  rw [if_pos (hL 9 (by decide))] at hg
  go_wp2_with fail
  refine bodyPost_end (results_none rfl _ _ _) rfl ?_

  exact ⟨rfl, FIN.out, KBF.out⟩
end Go.Proofs.YtjobdfgcgnpppaaDoor
namespace Go.Proofs.YtjobdfgcgnpppaaDoor
set_option linter.unusedVariables false
set_option linter.unusedSimpArgs false
open Go.RowKit

theorem why_nil (w : World) : Calls Tryd.prog 22 #[.nilIface] w fun e w' => e = .returned (.tuple #[.int .i64 0, .int .i64 0]) ∧ w' = w := by
  go_enter Tryd.func22, Tryd.ntmps22
  go_wp2
  go_ret2
  exact ⟨rfl, rfl⟩
theorem assertFault (a y : Int) (w : World) : (Instr.typeAssert (.iface 62 (.agg #[.int .i64 a, .int .i64 y])) 25 62 true).run Tryd.prog w = .ok (.tuple #[.agg #[.int .i64 a, .int .i64 y], .bool true]) w := by kernel_rfl
set_option maxHeartbeats 2000000 in
set_option maxRecDepth 100000 in
theorem why_fault (x y : Int) (w : World) : Calls Tryd.prog 22 #[.iface 62 (.agg #[.int .i64 x, .int .i64 y])] w fun e w' => e = .returned (.tuple #[.int .i64 y, .int .i64 x]) ∧ Below w.heap.size w w' := by
  have hta := assertFault x y
  have p0 := new_cells w #[.int .i64 x, .int .i64 y] 62 0
  have p1 := new_cells w #[.int .i64 x, .int .i64 y] 62 1
  have B1 : Hid (Below w.heap.size w (w.alloc (.cells #[.int .i64 x, .int .i64 y] 62))) := (Below.refl _ w).alloc (Nat.le_refl _) _
  simp only [List.getElem?_toArray, List.getElem?_cons_zero, List.getElem?_cons_succ] at p0 p1
  go_enter Tryd.func22, Tryd.ntmps22
  go_wp2_with fail
  go_quiet (fail)
  go_wp2_with fail
  go_ret2
  exact ⟨rfl, ⟨B1.out.os, B1.out.tape, B1.out.output, B1.out.size, B1.out.block⟩⟩
/-- An error, as pair tells it: none, or a Fault with its place. -/
def errV (at' why : Int) : Value := if why = 0 then .nilIface else .iface 62 (.agg #[.int .i64 at', .int .i64 why])
theorem is_is (a y a' y' : Int) (ha : y = 0 → a = 0) (w : World) : Calls Tryd.prog 12 #[errV a y, .int .i64 a', .int .i64 y'] w fun e w' => e = .returned (.bool (y == y' && a == a')) ∧ Below w.heap.size w w' := by
  unfold errV
  by_cases h0 : y = 0
  · have h1 := ha h0
    subst h0
    subst h1
    rw [if_pos rfl]
    have WH := hid (why_nil w)
    cases q1 : ((0 : Int) == y') <;> cases q2 : ((0 : Int) == a') <;>
    · go_enter Tryd.func12, Tryd.ntmps12
      go_wp2_with (go_at_call 22; refine WH.out.mono ?_; rintro e w2 ⟨rfl, rfl⟩)
      go_ret
      exact ⟨rfl, Below.refl _ _⟩
  · rw [if_neg h0]
    have WH := hid (why_fault a y w)
    cases q1 : (y == y') <;> cases q2 : (a == a') <;>
    · go_enter Tryd.func12, Tryd.ntmps12
      go_wp2_with (go_at_call 22; refine WH.out.mono ?_; rintro e w2 ⟨rfl, b2⟩; have B2 := hid b2; clear b2)
      go_ret
      exact ⟨rfl, B2.out⟩
set_option maxHeartbeats 2000000 in
theorem isList_is (x : MOp) (a : Option Addr) (n c : Nat) (w : World) : Calls Tryd.prog 35 #[opW x a n c] w fun e w' => e = .returned (.bool (lst x.kind)) ∧ Below w.heap.size w w' := by
  unfold lst
  obtain ⟨k, s, v, l, h, nl⟩ := x
  simp only [MOp.kind, MOp.key, MOp.value, opW] at *
  have B1 : ∀ o, Hid (Below w.heap.size w (w.alloc o)) := fun o => (Below.refl _ w).alloc (Nat.le_refl _) _
  cases q1 : (k == (1 : Int)) <;> cases q2 : (k == (2 : Int)) <;>
  · go_enter Tryd.func35, Tryd.ntmps35
    go_wp2_with fail
    go_ret
    exact ⟨rfl, (B1 _).out⟩
end Go.Proofs.YtjobdfgcgnpppaaDoor
namespace Go.Proofs.YtjobdfgcgnpppaaDoor
set_option linter.unusedVariables false
set_option linter.unusedSimpArgs false
open Go.RowKit Go.Lib Go.Maps

/-- What a step leaves: all that is older than B, but for three blocks. -/
def K3 (B pb ob hb : Nat) (w w' : World) : Prop := w'.os = w.os ∧ w'.tape = w.tape ∧ w'.output = w.output ∧ w.heap.size ≤ w'.heap.size ∧ ∀ b, b < B → b ≠ pb → b ≠ ob → b ≠ hb → w'.heap[b]? = w.heap[b]?
theorem K3.refl (B pb ob hb : Nat) (w : World) : K3 B pb ob hb w w := ⟨rfl, rfl, rfl, Nat.le_refl _, fun _ _ _ _ _ => rfl⟩
theorem K3.trans {B pb ob hb : Nat} {w w1 w2 : World} (h : K3 B pb ob hb w w1) (h2 : K3 B pb ob hb w1 w2) : K3 B pb ob hb w w2 := ⟨h2.1.trans h.1, h2.2.1.trans h.2.1, h2.2.2.1.trans h.2.2.1, Nat.le_trans h.2.2.2.1 h2.2.2.2.1, fun b a1 a2 a3 a4 => (h2.2.2.2.2 b a1 a2 a3 a4).trans (h.2.2.2.2 b a1 a2 a3 a4)⟩
theorem K3.of_below {B pb ob hb : Nat} {w w1 : World} (h : Below w.heap.size w w1) (hB : B ≤ w.heap.size) : K3 B pb ob hb w w1 := ⟨h.os, h.tape, h.output, h.size, fun b a1 _ _ _ => h.block b (Nat.lt_of_lt_of_le a1 hB)⟩
theorem K3.of_but {B pb ob hb : Nat} {w w1 : World} (h : ButB hb w w1) (hB : B ≤ w.heap.size) : K3 B pb ob hb w w1 := ⟨h.1, h.2.1, h.2.2.1, h.2.2.2.1, fun b a1 _ _ a4 => h.2.2.2.2 b (Nat.lt_of_lt_of_le a1 hB) a4⟩
theorem K3.of_kb {B pb ob hb : Nat} {w w1 : World} (h : KB B pb ob w w1) : K3 B pb ob hb w w1 := ⟨h.1, h.2.1, h.2.2.1, h.2.2.2.1, fun b a1 a2 a3 _ => h.2.2.2.2 b a1 a2 a3⟩
/-- What was asked by the open invocation. -/
def askedO (l : List MEv) (k : Nat) (p : Int) (O : List MOp) : Bool := match opnP l k p with
  | none => false
  | some i => allEq askB (l.getD i default).ops O
theorem step_wr {l : List MEv} {k : Nat} {ek p : Int} {O : List MOp} (hE : l.getD k default = (ek, p, O)) (hnb : noteB (opsP l k) O = !mixB (opsP l k) O) : stepE l k = wrR (ek == 1) (opnP l k p).isSome (goneP l k p) (askedO l k p O) (fitB (ek, p, O)) (noteB (opsP l k) O) := by
  unfold stepE wrR askedO
  rw [hE, hnb]
  simp only [MEv.kind, MEv.proc, MEv.ops]
  by_cases h1 : ek = 1
  · subst h1
    rw [if_pos rfl]
    simp only [show ((1 : Int) == 1) = true from rfl, if_true, Bool.not_not]
  · have h1b : (ek == 1) = false := by simpa using h1
    rw [if_neg h1, h1b]
    cases opnP l k p with
    | none => simp
    | some i => simp
theorem wrong_is {S : Nat → Prop} (w : World) (B pb ob hb : Nat) (l : List MEv) (k p : Nat) (ek : Int) (O : List MOp) (v : Value) (h : PT w B pb ob hb l k) (hth : ∃ m, m ≤ 8 * k ∧ TH w hb m (opsP l k)) (hE : l.getD k default = (ek, (p : Int), O)) (hp : p < 100) (hkb : k ≤ 100000) (hO : O.length ≤ 8) (hnb : noteB (opsP l k) O = !mixB (opsP l k) O) (hok : ∀ o ∈ O, okK o) (hks : ∀ o ∈ O, o.key.size ≤ maxLen) (hv : OpsIn S w v O) (hS : ∀ b, S b → b ≠ hb) :
    Calls Tryd.prog 44 #[.pointer (some ⟨pb, 0, none⟩), .agg #[.int .i64 ek, .int .i64 (p : Int), v]] w fun e w' => e = .returned (.int .i64 (stepE l k)) ∧ ButB hb w w' ∧ (stepE l k = 0 → ∃ m, m ≤ 8 * (k + 1) ∧ TH w' hb m (opsP l (k + 1))) := by
  obtain ⟨m, hm, hT⟩ := hth
  obtain ⟨mo, hmo, f, hf, hf2⟩ := h.opn
  obtain ⟨tv, rows, c0, hout⟩ := h.tx
  have hle := invN_le l k
  have e2 : opsP l (k + 1) = opsP l k ++ O := by
    show opsP l k ++ (l.getD k default).ops = _
    rw [hE]
  rw [step_wr hE hnb, e2]
  have hlk : ∀ T : Nat, ((opnP l k (p : Int)).map fun i => (invN l i)).getD 0 = T → ∀ V : World, V.heap[ob]? = w.heap[ob]? → (Instr.lookup 63 (.map (some ob)) (.int .i64 (p : Int)) true).run Tryd.prog V = .ok (.tuple #[.int .i64 (T : Int), .bool (opnP l k (p : Int)).isSome]) V := fun T hT V hV => by
    rw [(hf.same hV).look_ok keys3 Tryd.underlying63 (zero3 V) (key3 p hp), hf2]
    cases hq : opnP l k (p : Int) with
    | none => rw [hq] at hT; subst hT; rfl
    | some i => rw [hq] at hT; subst hT; rfl
  cases hq : opnP l k (p : Int) with
  | none =>
    have hl2 := hlk 0 (by rw [hq]; rfl)
    rw [hq] at hl2
    refine (wrong_walk (S' := Any) (X := []) (ov := .bool true) (T := 0) (b := false) w pb ob hb m (opsP l k) O ek p v tv (ek == 1) (goneP l k p) (askedO l k p O) (fitB (ek, (p : Int), O)) (noteB (opsP l k) O) rfl hp rfl rfl h.c1 h.c2 (h.gone p hp) c0 hl2 hf.lt (fun _ c => by cases c) hv hS hT hok hks (by unfold maxLen; omega)).mono ?_
    rintro e w' ⟨h1, h2, h3⟩
    exact ⟨h1, h2, fun c => ⟨m + O.length, by omega, h3 c⟩⟩
  | some i =>
    have hl2 := hlk (invN l i) (by rw [hq]; rfl)
    rw [hq] at hl2
    have hat := opnP_at hq
    have hTl : invN l i < invN l k := invN_lt hat.1 hat.2.2
    have hrow0 := hout.each (invN l i) hTl
    rw [txL_open hq] at hrow0
    obtain ⟨ov, hrow, hov⟩ := hrow0
    have hX : ∃ g N c, tv = .slice (some ⟨g, 0, none⟩) N c ∧ invN l i < N ∧ N ≤ 1000000 ∧ w.cell? ⟨g, invN l i * 5 + 4, none⟩ = some ov := by
      rcases hout.own.2 with ⟨_, hn⟩ | ⟨g, cap, cur, hv, hg, hh, _⟩
      · omega
      · subst hv
        refine ⟨g, invN l k, cap, rfl, hTl, by omega, ?_⟩
        have := hout.own.cells (g := g) rfl (invN l i * 5 + 4) ov (by rw [flatten_get 5 rows _ _ hout.sizes (by rw [hout.rn]; exact hTl) (by decide), hrow]; rfl)
        rw [Addr.add_lit] at this
        simpa using this
    obtain ⟨g, N, c, x1, x2, x3, x4⟩ := hX
    refine (wrong_walk (X := (l.getD i default).ops) (ov := ov) (T := invN l i) (b := true) w pb ob hb m (opsP l k) O ek p v tv (ek == 1) (goneP l k p) (askedO l k p O) (fitB (ek, (p : Int), O)) (noteB (opsP l k) O) rfl hp rfl rfl h.c1 h.c2 (h.gone p hp) c0 hl2 hf.lt (fun _ _ => ⟨g, N, c, x1, x2, x3, x4, hov.rows, by unfold askedO; rw [hq]⟩) hv hS hT hok hks (by unfold maxLen; omega)).mono ?_
    rintro e w' ⟨h1, h2, h3⟩
    exact ⟨h1, h2, fun c => ⟨m + O.length, by omega, h3 c⟩⟩
/-- What a step comes to. -/
def TakeP (B pb ob hb : Nat) (l : List MEv) (k : Nat) (w : World) (e : Ending) (w' : World) : Prop := e = .returned (errV (k : Int) (stepE l k)) ∧ K3 B pb ob hb w w' ∧ (stepE l k = 0 → PT w' B pb ob hb l (k + 1) ∧ ∃ m, m ≤ 8 * (k + 1) ∧ TH w' hb m (opsP l (k + 1))) ∧ (stepE l k ≠ 0 → ButB hb w w')
set_option maxHeartbeats 4000000 in
set_option maxRecDepth 100000 in
theorem take_is {S : Nat → Prop} (w : World) (B pb ob hb : Nat) (l : List MEv) (k p : Nat) (ek : Int) (O : List MOp) (v : Value) (h : PT w B pb ob hb l k) (hth : ∃ m, m ≤ 8 * k ∧ TH w hb m (opsP l k)) (hE : l.getD k default = (ek, (p : Int), O)) (hp : p < 100) (hkb : k ≤ 100000) (hO : O.length ≤ 8) (hnb : noteB (opsP l k) O = !mixB (opsP l k) O) (hok : ∀ o ∈ O, okK o) (hks : ∀ o ∈ O, o.key.size ≤ 281474976710656) (hv : OpsIn S w v O) (hS : ∀ b, S b → b ≠ hb ∧ b ≠ ob) :
    Calls Tryd.prog 28 #[.pointer (some ⟨pb, 0, none⟩), .int .i64 (k : Int), .agg #[.int .i64 ek, .int .i64 (p : Int), v]] w fun e w' => TakeP B pb ob hb l k w e w' := by
  obtain ⟨W, hW⟩ : ∃ W, w.alloc (.cells #[.int .i64 ek, .int .i64 (p : Int), v] 42) = W := ⟨_, rfl⟩
  have BW1 : Hid (Below w.heap.size w W) := by rw [← hW]; exact below_box w _
  obtain ⟨xb, hxb⟩ : ∃ xb, w.heap.size = xb := ⟨_, rfl⟩
  have x0 : W.cell? ⟨xb, 0, none⟩ = some (.int .i64 ek) := by rw [← hW, ← hxb]; exact new_cells w _ 42 0
  have x1 : W.cell? ⟨xb, 1, none⟩ = some (.int .i64 (p : Int)) := by rw [← hW, ← hxb]; exact new_cells w _ 42 1
  have x2 : W.cell? ⟨xb, 2, none⟩ = some v := by rw [← hW, ← hxb]; exact new_cells w _ 42 2
  have P1 := h.keep BW1.out.size (fun b hb _ => BW1.out.block b hb)
  have hthl : hb < w.heap.size := by obtain ⟨m, _, hT⟩ := hth; exact hT.lt
  have T1 : ∃ m, m ≤ 8 * k ∧ TH W hb m (opsP l k) := by
    obtain ⟨m, hm, hT⟩ := hth
    exact ⟨m, hm, hT.same (BW1.out.block hb hthl)⟩
  have hv1 : OpsIn S W v O := hv.keep (keeps_below BW1.out) (fun _ _ h => h)
  have WR := hid (wrong_is W B pb ob hb l k p ek O v P1 T1 hE hp hkb hO hnb hok (fun o ho => Nat.le_trans (hks o ho) (by unfold maxLen; decide)) hv1 (fun b hs => (hS b hs).1))
  have hxh : xb ≠ hb := by omega
  have KW : Hid (K3 B pb ob hb w W) := K3.of_below BW1.out h.hB
  have BG : Hid (∀ w2, ButB hb W w2 → ek = 1 → goneP l k (p : Int) = false → Calls Tryd.prog 45 #[.pointer (some ⟨pb, 0, none⟩), .int .i64 (k : Int), .agg #[.int .i64 ek, .int .i64 (p : Int), v]] w2 fun e w' => e = .returned (.tuple #[]) ∧ PT w' B pb ob hb l (k + 1) ∧ KB B pb ob w2 w') := fun w2 hb2 h1 hg => by
    subst h1
    exact begin_is (S := fun b => S b ∧ b < W.heap.size) w2 B pb ob hb l k p O v (P1.keep hb2.2.2.2.1 (fun b hl hn => hb2.2.2.2.2 b hl hn)) hE hp hkb hg (hv1.keep (fun b hs hl => hb2.2.2.2.2 b hl (hS b hs).1) (fun b hl hs => ⟨hs, hl⟩)) (fun b hs => (hS b hs.1).2) hks
  have EN : Hid (∀ w2 i, ButB hb W w2 → ek ≠ 1 → opnP l k (p : Int) = some i → Calls Tryd.prog 46 #[.pointer (some ⟨pb, 0, none⟩), .int .i64 (k : Int), .agg #[.int .i64 ek, .int .i64 (p : Int), v]] w2 fun e w' => e = .returned (.tuple #[]) ∧ PT w' B pb ob hb l (k + 1) ∧ KB B pb ob w2 w') := fun w2 i hb2 h1 hg =>
    end_is (S := fun b => S b ∧ b < W.heap.size) w2 B pb ob hb l k p i ek O v (P1.keep hb2.2.2.2.1 (fun b hl hn => hb2.2.2.2.2 b hl hn)) hE h1 hp hkb hg (hv1.keep (fun b hs hl => hb2.2.2.2.2 b hl (hS b hs).1) (fun b hl hs => ⟨hs, hl⟩)) (fun b hs => (hS b hs.1).2) hks
  have hxl : xb < W.heap.size := World.block_lt_of_cell? _ _ x0
  have hWB : B ≤ W.heap.size := P1.hB
  have hhB : hb < B := h.hhb
  have hoB : ob < B := h.hob
  have STEP : Hid (stepE l k = 0 → (ek = 1 → goneP l k (p : Int) = false) ∧ (ek ≠ 1 → ∃ i, opnP l k (p : Int) = some i)) := fun h0 => by
    unfold stepE at h0
    rw [hE] at h0
    simp only [MEv.kind, MEv.proc, MEv.ops] at h0
    refine ⟨fun h1 => ?_, fun h1 => ?_⟩
    · rw [if_pos h1] at h0
      cases hg : goneP l k (p : Int) with
      | false => rfl
      | true => rw [hg, Bool.or_true] at h0; simp at h0
    · rw [if_neg h1] at h0
      cases hq : opnP l k (p : Int) with
      | none => rw [hq] at h0; simp at h0
      | some i => exact ⟨i, rfl⟩
  unfold TakeP
  generalize hs : stepE l k = s at *
  clear hs hv hv1 h P1 T1 hth hnb hok hks
  by_cases h0 : s = 0
  · subst h0
    obtain ⟨s1, s2⟩ := STEP.out rfl
    by_cases h1 : ek = 1
    · have hg := s1 h1
      have S1 := hid hg
      have hk1 : (ek == (1 : Int)) = true := by simpa using h1
      have H1 := hid h1
      clear s1 s2 h1 hg
      go_enter Tryd.func28, Tryd.ntmps28
      go_wp2_with (first | (go_at_call 44; refine WR.out.mono ?_; rintro e w2 ⟨rfl, b2, t2⟩; have B2 := hid b2; have T2 := hid (t2 rfl); have y0 := cell_same (b2.2.2.2.2 xb hxl hxh) x0; have y1 := cell_same (b2.2.2.2.2 xb hxl hxh) x1; have y2 := cell_same (b2.2.2.2.2 xb hxl hxh) x2; clear b2 t2) | (go_at_call 45; refine (BG.out w2 B2.out H1.out S1.out).mono ?_; rintro e w3 ⟨rfl, p3, k3⟩; have P3 := hid p3; have K3' := hid k3; clear p3 k3))
      go_ret
      refine ⟨rfl, KW.out.trans ((K3.of_but B2.out hWB).trans (K3.of_kb K3'.out)), fun _ => ⟨P3.out, ?_⟩, fun c => absurd rfl c⟩
      obtain ⟨m, hm, hT⟩ := T2.out
      exact ⟨m, hm, hT.same (K3'.out.2.2.2.2 hb hhB (fun c => P3.out.n2 c.symm) (fun c => P3.out.n3 c.symm))⟩
    · obtain ⟨i, hi⟩ := s2 h1
      have S1 := hid hi
      have hk1 : (ek == (1 : Int)) = false := by simpa using h1
      have H1 := hid h1
      clear s1 s2 h1 hi
      go_enter Tryd.func28, Tryd.ntmps28
      go_wp2_with (first | (go_at_call 44; refine WR.out.mono ?_; rintro e w2 ⟨rfl, b2, t2⟩; have B2 := hid b2; have T2 := hid (t2 rfl); have y0 := cell_same (b2.2.2.2.2 xb hxl hxh) x0; have y1 := cell_same (b2.2.2.2.2 xb hxl hxh) x1; have y2 := cell_same (b2.2.2.2.2 xb hxl hxh) x2; clear b2 t2) | (go_at_call 46; refine (EN.out w2 i B2.out H1.out S1.out).mono ?_; rintro e w3 ⟨rfl, p3, k3⟩; have P3 := hid p3; have K3' := hid k3; clear p3 k3))
      go_ret
      refine ⟨rfl, KW.out.trans ((K3.of_but B2.out hWB).trans (K3.of_kb K3'.out)), fun _ => ⟨P3.out, ?_⟩, fun c => absurd rfl c⟩
      obtain ⟨m, hm, hT⟩ := T2.out
      exact ⟨m, hm, hT.same (K3'.out.2.2.2.2 hb hhB (fun c => P3.out.n2 c.symm) (fun c => P3.out.n3 c.symm))⟩
  · have q0 : (s != (0 : Int)) = true := by simpa using h0
    have q1 : (s == (0 : Int)) = false := by simpa using h0
    have H0 := hid h0
    clear h0 STEP BG EN
    go_enter Tryd.func28, Tryd.ntmps28
    go_wp2_with (go_at_call 44; refine WR.out.mono ?_; rintro e w2 ⟨rfl, b2, t2⟩; have B2 := hid b2; clear b2 t2)
    go_ret
    exact ⟨by unfold errV; rw [if_neg H0.out]; rfl, KW.out.trans (K3.of_but B2.out hWB), fun c => absurd c H0.out, fun _ => (ButB.of_below BW1.out).trans B2.out⟩
end Go.Proofs.YtjobdfgcgnpppaaDoor
