/-
  Whether two of the document's states are the same.
-/
import Derived.Test.YtjeheknhpfkaiaaDoorTt5
import Derived.Test.YtjeheknhpfkaiaaDoorIt
import Derived.Deep.Upon
namespace Go.Proofs.YtjeheknhpfkaiaaDoor
set_option linter.unusedVariables false
set_option linter.unusedSimpArgs false
open Go.RowKit Go.Lib

theorem Tryd.mixedOrders : Tryd.prog.follows .mixedOrders = true := by kernel_rfl
theorem rowsV_append (rs rs2 : List (MOp × Value)) : rowsV (rs ++ rs2) = rowsV rs ++ rowsV rs2 := by
  induction rs with
  | nil => simp [rowsV]
  | cons r l ih => simp [rowsV, ih]
/-- append of a row of operations to a row of one's own. -/
theorem wp_appendO {o : Oper} {A : Act} {K : Act → World → Prop} {Q : Exit → Act → World → Prop} (base D : Nat) (w : World) (s x : Operand)
    (ho : o.op = .call { callee := .builtin .append, args := #[s, x], argTypes := #[22, 22] }) (v u : Value) (hs : A.eval s = v) (hx : A.eval x = u) (rd rd2 : List (MOp × Value))
    (h1 : w.ownsRow base 56 6 v rd.length (rowsV rd)) (h2 : w.ownsRow D 56 6 u rd2.length (rowsV rd2)) (c2 : ∀ r ∈ rd2, ∃ a n c, r.2 = .slice a n c) (hlen : rd.length + rd2.length ≤ 1099511627776) (hb : base ≤ w.heap.size)
    (hK : ∀ v' w', w'.ownsRow base 56 6 v' (rd ++ rd2).length (rowsV (rd ++ rd2)) → Gro (fun b => v.ownBlock = some b) w w' → K (A.put o.dst v') w') : o.wp Tryd.prog A w K Q := by
  obtain ⟨i0, hi0, hz0, hz1, hz2⟩ := info_parts Tryd.infoOp
  by_cases hn : rd2.length = 0
  · have hxs : rd2 = [] := List.length_eq_zero_iff.1 hn
    subst hxs
    obtain ⟨la, lc, hv⟩ := own_slice h2
    obtain ⟨va, vc, hvv⟩ := own_slice h1
    have hvc : rd.length ≤ vc := by
      rcases h1.2 with ⟨e, e2⟩ | ⟨g, cap, cur, e, _, _, e3, _⟩
      · omega
      · rw [hvv] at e
        injection e with _ _ e
        omega
    have hrun : (Builtin.append_ #[22, 22] o.type #[.slice va rd.length vc, .slice la 0 lc]).run Tryd.prog w = .ok (.slice va rd.length vc) w := by
      cases la <;> cases va <;> simp [Builtin.append_, run_underlying Tryd.underlying22, sizeOf, typeInfo, hi0, Builtin.lenOf, Builtin.firstCells, storeCells, loadCells, loadCellsFrom, Result.andThen, hvc]
    unfold Oper.wp
    rw [hv] at hx
    rw [hvv] at hs
    simp [execOp, ho, resolve, invoke, builtin, hs, hx, hrun, Result.andThen]
    refine hK _ _ ?_ (Gro.refl _ _)
    rw [List.append_nil, ← hvv]
    exact h1
  · rcases h2.2 with ⟨_, hn0⟩ | ⟨g, cap, cur, hv, hD, hh, q1, q2, q3, q4⟩
    · exact absurd hn0 hn
    · subst hv
      refine wp_append_lies w s x 22 ho base 56 i0 (.agg #[.int .i64 0, .string ⟨#[]⟩, .int .i64 0, .slice none 0 0, .bool false, .bool false]) 6 64 Tryd.underlying22 hi0 hz0 hz1 hz2 rfl (by decide) v rd.length (rowsV rd) hs h1 ⟨g, 0, none⟩ rd2.length cap (rowsV rd2) hx (rowsV_len rd2) (fun j v hj => ?_) (rowsV_one rd2 c2) (by omega) (by unfold maxLen; omega) (by omega) hb w.heap.size rfl ?_
      · rw [Addr.add_lit]
        have hjl := (List.getElem?_eq_some_iff.1 hj).1
        rw [rowsV_len] at hjl
        rw [Nat.zero_add, World.ownsRow.cellAt h2 j hjl]
        exact hj
      · intro g2 cap2 w4 hown hgrow hat hglt
        refine hK _ w4 ?_ ⟨hgrow.os, hgrow.tape, hgrow.output, hgrow.size, fun k hk hne => hgrow.block k hk (fun e => hne e.symm)⟩
        rw [rowsV_append, List.length_append]
        exact hown
theorem own_drew {B : Nat} {w : World} {e : TypeId} {z n : Nat} {v : Value} {xs : List Value} (h : w.ownsRow B e z v n xs) : w.drew.ownsRow B e z v n xs := h
/-- A row of operations by its cells. -/
def SC (w : World) (a : Option Addr) (L : List MOp) : Prop := ∀ j, j < L.length → ∃ b lv, a = some ⟨b, 0, none⟩ ∧ (∃ la ln lc, lv = .slice la ln lc) ∧ b < w.heap.size ∧ w.cell? ⟨b, j * 6, none⟩ = some (.int .i64 (L.getD j default).kind) ∧ w.cell? ⟨b, j * 6 + 1, none⟩ = some (.string (L.getD j default).key) ∧ w.cell? ⟨b, j * 6 + 2, none⟩ = some (.int .i64 (L.getD j default).value) ∧
    w.cell? ⟨b, j * 6 + 3, none⟩ = some lv ∧ w.cell? ⟨b, j * 6 + 4, none⟩ = some (.bool (L.getD j default).has) ∧ w.cell? ⟨b, j * 6 + 5, none⟩ = some (.bool (L.getD j default).nl)
theorem row_cells {B : Nat} {w : World} {v : Value} {rd : List (MOp × Value)} {L : List MOp} (q1 : w.ownsRow B 56 6 v rd.length (rowsV rd)) (q3 : ∀ r ∈ rd, ∃ a n c, r.2 = .slice a n c) (q2 : rd.map Prod.fst = L) : ∃ a c, v = .slice a rd.length c ∧ rd.length ≤ c ∧ SC w a L := by
  have hl : rd.length = L.length := by rw [← q2, List.length_map]
  rcases q1.2 with ⟨hv, hn⟩ | ⟨g, cap, cur, hv, hB, hh, h1, _⟩
  · refine ⟨none, 0, by rw [hv, hn], by omega, fun j hj => by omega⟩
  · refine ⟨_, cap, hv, h1, fun j hj => ?_⟩
    have hjr : j < rd.length := by omega
    have hgd : (rd.getD j default).1 = L.getD j default := by
      rw [← q2]
      simp [List.getD, List.getElem?_eq_getElem hjr]
    have hc : ∀ i, i < 6 → w.cell? ⟨g, j * 6 + i, none⟩ = (opC (L.getD j default) (rd.getD j default).2)[i]? := fun i hi => by
      subst hv
      rw [World.ownsRow.cellAt q1 (j * 6 + i) (by omega), rowsV_at rd j i hjr hi, hgd]
    have hm : rd.getD j default ∈ rd := by simp [List.getD, List.getElem?_eq_getElem hjr]
    exact ⟨g, (rd.getD j default).2, rfl, q3 _ hm, blt hh, hc 0 (by omega), hc 1 (by omega), hc 2 (by omega), hc 3 (by omega), hc 4 (by omega), hc 5 (by omega)⟩
/-- Two states have the same at a key. -/
def SameAt (L1 L2 : List MOp) (k : ByteArray) : Prop := regM L1 k = regM L2 k ∧ lstM L1 k = lstM L2 k
theorem sameAt_iff (L1 L2 : List MOp) (k : ByteArray) : SameAt L1 L2 k ↔ (rgV (regM L1 k) = rgV (regM L2 k) ∧ (regM L1 k).isSome = (regM L2 k).isSome) ∧ lstM L1 k = lstM L2 k := by
  unfold SameAt
  constructor
  · rintro ⟨h1, h2⟩
    rw [h1]
    exact ⟨⟨rfl, rfl⟩, h2⟩
  · rintro ⟨⟨h1, h2⟩, h3⟩
    refine ⟨?_, h3⟩
    cases e1 : regM L1 k with
    | none => rw [e1] at h2; cases e2 : regM L2 k with
      | none => rfl
      | some y => rw [e2] at h2; cases h2
    | some x => cases e2 : regM L2 k with
      | none => rw [e1, e2] at h2; cases h2
      | some y => rw [e1, e2] at h1; simp only [rgV, Option.getD_some] at h1; rw [h1]
/-- Until which operation a value is used up, in Same's first region. -/
def tilS : Nat → Option Nat
  | 0 => some 5
  | 5 => some 10
  | _ => none
/-- What the values of Same's first region are. -/
def RS (w : World) (xb yb : Nat) (v u : Value) (rd1 rd2 : List (MOp × Value)) : Nat → Value → World → Prop
  | 0, x, W => ∃ g0, x = .slice (some ⟨g0, 0, none⟩) 0 0 ∧ w.heap.size ≤ g0 ∧ W.heap[g0]? = some (.cells #[] 56 (0, 0))
  | 1, x, _ => x = .pointer (some ⟨xb, 0, none⟩)
  | 2, x, _ => x = .pointer (some ⟨xb, 0, none⟩)
  | 3, x, _ => x = .pointer (some ⟨xb, 0, none⟩)
  | 4, x, _ => x = v
  | 5, x, W => W.ownsRow w.heap.size 56 6 x rd1.length (rowsV rd1)
  | 6, x, _ => x = .pointer (some ⟨yb, 0, none⟩)
  | 7, x, _ => x = .pointer (some ⟨yb, 0, none⟩)
  | 8, x, _ => x = .pointer (some ⟨yb, 0, none⟩)
  | 9, x, _ => x = u
  | 10, x, W => W.ownsRow w.heap.size 56 6 x (rd1 ++ rd2).length (rowsV (rd1 ++ rd2))
  | 11, x, _ => x = .int .i64 ((rd1 ++ rd2).length : Int)
  | 12, x, _ => x = .int .i64 0
  | _, _, _ => True

set_option maxHeartbeats 8000000 in
set_option maxRecDepth 100000 in
theorem same_is (B : Nat) (w : World) (xb yb : Nat) (v u : Value) (L1 L2 : List MOp) (h1 : Rst B w xb v L1) (h2 : Rst B w yb u L2) (hB : B ≤ w.heap.size) (hl1 : L1.length ≤ 1048576) (hl2 : L2.length ≤ 1048576) :
    Calls Tryd.prog 7 #[.pointer (some ⟨xb, 0, none⟩), .pointer (some ⟨yb, 0, none⟩)] w fun e w' => ∃ b, e = .returned (.bool b) ∧ (b = true ↔ ∀ o ∈ L1 ++ L2, SameAt L1 L2 o.key) ∧ Below w.heap.size w w' := by
  obtain ⟨rd1, r1, e1, k1⟩ := h1.row
  obtain ⟨rd2, r2, e2, k2⟩ := h2.row
  have n1 : rd1.length = L1.length := by rw [← e1, List.length_map]
  have n2 : rd2.length = L2.length := by rw [← e2, List.length_map]
  have R1 := hid r1
  have R2 := hid r2
  have E12 : Hid ((rd1 ++ rd2).map Prod.fst = L1 ++ L2) := by show _ = _; rw [List.map_append, e1, e2]
  have KK : Hid (∀ r ∈ rd1 ++ rd2, ∃ a n c, r.2 = .slice a n c) := fun r hr => by
    rcases List.mem_append.1 hr with q | q
    · exact k1 r q
    · exact k2 r q
  have K1 := hid k1
  have K2 := hid k2
  have H1 := hid h1
  have H2 := hid h2
  have x0 := Lib.cell_of_heap h1.ob 0
  have y0 := Lib.cell_of_heap h2.ob 0
  have hxl := h1.lt
  have hyl := h2.lt
  have hlen : rd1.length + rd2.length ≤ 2097152 := by omega
  clear h1 h2 r1 r2 e1 e2 k1 k2
  go_enter Tryd.func7, Tryd.ntmps7
  go_wp2_with fail
  refine wp_region_til Tryd.mixedOrders (by kernel_rfl) tilS (fun W => Below w.heap.size w W) ⟨rfl, rfl, rfl, Nat.le_refl _, fun _ _ => rfl⟩ (fun val => { tmps := #[_, _, _, _, _, _, _, _, _, _, _, val 0, val 1, val 2, val 3, val 4, val 5, val 6, val 7, val 8, val 9, val 10, val 11, val 12, _, _, _, _, _, _, _, _, _, _, _, _, _, _, _, _, _, _, _, _, _, _, _, _, _, _, _, _, _, _, _, _, _, _, _, _, _, _], defers := [] }) (RS w xb yb v u rd1 rd2) (fun _ => undef) rfl _ rfl ⟨?_, ?_, ?_, ?_, ?_, ?_, ?_, ?_, ?_, ?_, ?_, ?_, ?_, trivial⟩ ?_
  · refine ⟨rfl, fun _ _ => rfl, fun val W hb hd => ?_⟩
    refine doesT_grown (v := .slice (some ⟨W.heap.size, 0, none⟩) 0 0) (w' := W.alloc (.cells #[] 56)) ?_ ⟨W.heap.size, rfl, hb.size, by rw [alloc_at, if_pos rfl]⟩ (hb.trans ((below_box W _).mono hb.size)) ?_
    · simp [execOp, Act.eval, go_sem]
    · intro j x hj hlive hr
      match j, hj, hlive, hr with
      | 0, _, hl, _ => exact absurd hl (by decide +kernel)
      | 1, _, _, hr => exact hr
      | 2, _, _, hr => exact hr
      | 3, _, _, hr => exact hr
      | 4, _, _, hr => exact hr
      | 5, _, hl, _ => exact absurd hl (by decide +kernel)
      | 6, _, _, hr => exact hr
      | 7, _, _, hr => exact hr
      | 8, _, _, hr => exact hr
      | 9, _, _, hr => exact hr
      | 10, _, _, hr => exact own_same hr (fun g hg => (below_box W _).block g (own_block2 hr hg).2)
      | 11, _, _, hr => exact hr
      | 12, _, _, hr => exact hr
      | j + 13, hj, _, _ => exact absurd hj (by simp)
  · exact ⟨rfl, fun _ _ => rfl, fun val W hb hd => doesT_value hb rfl rfl⟩
  · refine ⟨rfl, fun _ _ => rfl, fun val W hb hd => ?_⟩
    have h0 : val 1 = .pointer (some ⟨xb, 0, none⟩) := depsT_get hd 1 (by kernel_rfl) (.inl rfl)
    refine doesT_value (v := .pointer (some ⟨xb, 0, none⟩)) hb ?_ rfl
    simp [execOp, Act.eval, h0, go_sem]
  · refine ⟨rfl, fun _ _ => rfl, fun val W hb hd => ?_⟩
    have h0 : val 2 = .pointer (some ⟨xb, 0, none⟩) := depsT_get hd 2 (by kernel_rfl) (.inl rfl)
    refine doesT_value (v := .pointer (some ⟨xb, 0, none⟩)) hb ?_ rfl
    simp [execOp, Act.eval, h0, go_sem]
  · refine ⟨rfl, fun _ _ => rfl, fun val W hb hd => ?_⟩
    have h0 : val 3 = .pointer (some ⟨xb, 0, none⟩) := depsT_get hd 3 (by kernel_rfl) (.inl rfl)
    have d0 : W.cell? ⟨xb, 0, none⟩ = some v := (World.cell?_of_block (a := ⟨xb, 0, none⟩) (hb.block xb hxl)).trans x0
    refine doesT_value (v := v) hb ?_ rfl
    simp [execOp, Act.eval, h0, go_sem, d0]
  · refine ⟨rfl, fun _ _ => rfl, fun val W hb hd => ?_⟩
    obtain ⟨g0, q0, q1, q2⟩ := depsT_get hd 0 (by kernel_rfl) (.inr rfl)
    have h4 : val 4 = v := depsT_get hd 4 (by kernel_rfl) (.inl rfl)
    intro K hK
    refine wp_appendO w.heap.size B W (.tmp 11) (.tmp 15) rfl (.slice (some ⟨g0, 0, none⟩) 0 0) v q0 h4 [] rd1 ⟨rfl, .inr ⟨g0, 0, #[], rfl, q1, q2, Nat.le_refl _, by unfold maxLen; omega, rfl, rfl⟩⟩ (own_same R1.out (fun g hg => hb.block g (by have := (own_block2 R1.out hg).2; omega))) K1.out (by simp; omega) hb.size (fun v' w' ho hg => ?_)
    refine hK v' w' ho ?_ ?_
    · exact hb.trans (hg.below hb.size (fun i hi c => by
        have e : g0 = i := by simpa [Value.ownBlock] using c
        omega))
    · intro j y hj hlive hr
      match j, hj, hlive, hr with
      | 0, _, hl, _ => exact absurd hl (by decide +kernel)
      | 1, _, _, hr => exact hr
      | 2, _, _, hr => exact hr
      | 3, _, _, hr => exact hr
      | 4, _, _, hr => exact hr
      | 5, _, hl, _ => exact absurd hl (by decide +kernel)
      | 6, _, _, hr => exact hr
      | 7, _, _, hr => exact hr
      | 8, _, _, hr => exact hr
      | 9, _, _, hr => exact hr
      | 10, _, hl, _ => exact absurd hl (by decide +kernel)
      | 11, _, _, hr => exact hr
      | 12, _, _, hr => exact hr
      | j + 13, hj, _, _ => exact absurd hj (by simp)
  · exact ⟨rfl, fun _ _ => rfl, fun val W hb hd => doesT_value hb rfl rfl⟩
  · refine ⟨rfl, fun _ _ => rfl, fun val W hb hd => ?_⟩
    have h0 : val 6 = .pointer (some ⟨yb, 0, none⟩) := depsT_get hd 6 (by kernel_rfl) (.inl rfl)
    refine doesT_value (v := .pointer (some ⟨yb, 0, none⟩)) hb ?_ rfl
    simp [execOp, Act.eval, h0, go_sem]
  · refine ⟨rfl, fun _ _ => rfl, fun val W hb hd => ?_⟩
    have h0 : val 7 = .pointer (some ⟨yb, 0, none⟩) := depsT_get hd 7 (by kernel_rfl) (.inl rfl)
    refine doesT_value (v := .pointer (some ⟨yb, 0, none⟩)) hb ?_ rfl
    simp [execOp, Act.eval, h0, go_sem]
  · refine ⟨rfl, fun _ _ => rfl, fun val W hb hd => ?_⟩
    have h0 : val 8 = .pointer (some ⟨yb, 0, none⟩) := depsT_get hd 8 (by kernel_rfl) (.inl rfl)
    have d0 : W.cell? ⟨yb, 0, none⟩ = some u := (World.cell?_of_block (a := ⟨yb, 0, none⟩) (hb.block yb hyl)).trans y0
    refine doesT_value (v := u) hb ?_ rfl
    simp [execOp, Act.eval, h0, go_sem, d0]
  · refine ⟨rfl, fun _ _ => rfl, fun val W hb hd => ?_⟩
    have h5 := depsT_get hd 5 (by kernel_rfl) (.inr rfl)
    have h9 : val 9 = u := depsT_get hd 9 (by kernel_rfl) (.inl rfl)
    intro K hK
    refine wp_appendO w.heap.size B W (.tmp 16) (.tmp 20) rfl (val 5) u rfl h9 rd1 rd2 h5 (own_same R2.out (fun g hg => hb.block g (by have := (own_block2 R2.out hg).2; omega))) K2.out (by omega) hb.size (fun v' w' ho hg => ?_)
    refine hK v' w' ho ?_ ?_
    · exact hb.trans (hg.below hb.size (fun i hi c => by
        have := (own_block2 h5 c).1
        omega))
    · intro j y hj hlive hr
      match j, hj, hlive, hr with
      | 0, _, hl, _ => exact absurd hl (by decide +kernel)
      | 1, _, _, hr => exact hr
      | 2, _, _, hr => exact hr
      | 3, _, _, hr => exact hr
      | 4, _, _, hr => exact hr
      | 5, _, hl, _ => exact absurd hl (by decide +kernel)
      | 6, _, _, hr => exact hr
      | 7, _, _, hr => exact hr
      | 8, _, _, hr => exact hr
      | 9, _, _, hr => exact hr
      | 10, _, hl, _ => exact absurd hl (by decide +kernel)
      | 11, _, _, hr => exact hr
      | 12, _, _, hr => exact hr
      | j + 13, hj, _, _ => exact absurd hj (by simp)
  · refine ⟨rfl, fun _ _ => rfl, fun val W hb hd => ?_⟩
    have h10 := depsT_get hd 10 (by kernel_rfl) (.inl rfl)
    obtain ⟨ra, rc, hr⟩ := own_slice h10
    refine doesT_value (v := .int .i64 ((rd1 ++ rd2).length : Int)) hb ?_ rfl
    simp [execOp, Act.eval, hr, go_sem]
  · exact ⟨rfl, fun _ _ => rfl, fun val W hb hd => doesT_value hb rfl rfl⟩
  intro val w1 hb1 hR
  have OW : Hid (w1.ownsRow w.heap.size 56 6 (val 10) (rd1 ++ rd2).length (rowsV (rd1 ++ rd2))) := hR 10 (by decide) rfl
  have h11 : val 11 = .int .i64 ((rd1 ++ rd2).length : Int) := hR 11 (by decide) rfl
  have h12 : val 12 = .int .i64 0 := hR 12 (by decide) rfl
  have B1 := hid hb1
  clear hR hb1
  obtain ⟨M, hM⟩ : ∃ M, L1 ++ L2 = M := ⟨_, rfl⟩
  obtain ⟨N, hN⟩ : ∃ N, (rd1 ++ rd2).length = N := ⟨_, rfl⟩
  have hN2 : N ≤ 2097152 := by rw [← hN, List.length_append]; omega
  have MN : Hid (M.length = N) := by show _ = _; rw [← hN, ← hM, ← E12.out, List.length_map]
  obtain ⟨sa, sc, hsl, hsc, hcells⟩ := row_cells OW.out KK.out E12.out
  rw [hM] at hcells
  have HSC : Hid (SC w1 sa M) := hcells
  rw [hN] at h11 hsl hsc
  have HM := hid hM
  rw [h11, h12, hsl]
  clear h11 h12 hsl hcells OW hM hN
  go_wp2_with fail
  go_loopg [23] N (fun g i wr => ∃ k : Nat, k ≤ N ∧ N - k ≤ g ∧ i = .int .i64 k ∧ Aside (Below w1.heap.size w1 wr) ∧ Aside (∀ j, j < k → SameAt L1 L2 (M.getD j default).key))
  case atStart => exact ⟨0, Nat.zero_le _, by omega, rfl, Below.refl _ _, fun j hj => absurd hj (Nat.not_lt_zero _)⟩
  case round =>
    obtain ⟨k, hk, hg, rfl, BR, SA⟩ := hrel
    by_cases hlt : k < N
    · have hlti : (k : Int) < N := by omega
      obtain ⟨gb, lv, rfl, ⟨la, ln, lc, rfl⟩, hgl, k0, k1, k2, k3, k4, k5⟩ := HSC.out k (by rw [MN.out]; exact hlt)
      obtain ⟨O, hO⟩ : ∃ O, M.getD k default = O := ⟨_, rfl⟩
      rw [hO] at k0 k1 k2 k4 k5
      have HO := hid hO
      have q : ∀ i x, w1.cell? ⟨gb, i, none⟩ = some x → wr.cell? ⟨gb, i, none⟩ = some x := fun i x hc => (World.cell?_of_block (a := ⟨gb, i, none⟩) (BR.out.block gb hgl)).trans hc
      have d0 := q _ _ k0
      have d1 := q _ _ k1
      have d2 := q _ _ k2
      have d3 := q _ _ k3
      have d4 := q _ _ k4
      have d5 := q _ _ k5
      clear k0 k1 k2 k3 k4 k5 q hO
      go_wp2_with fail
      obtain ⟨W, hW⟩ : ∃ W, wr.alloc (.cells #[.int .i64 O.kind, .string O.key, .int .i64 O.value, .slice la ln lc, .bool O.has, .bool O.nl] 56) = W := ⟨_, rfl⟩
      have BW : Hid (Below w1.heap.size w1 W) := by rw [← hW]; exact BR.out.trans ((below_box wr _).mono BR.out.size)
      have BWW : Hid (Below w.heap.size w W) := B1.out.trans (BW.out.mono B1.out.size)
      have HBx : Hid (W.heap[wr.heap.size]? = some (.cells #[.int .i64 O.kind, .string O.key, .int .i64 O.value, .slice la ln lc, .bool O.has, .bool O.nl] 56)) := by rw [← hW]; show (wr.alloc _).heap[wr.heap.size]? = _; rw [alloc_at, if_pos rfl]
      rw [hW]
      clear hW
      have kb := Lib.cell_of_heap HBx.out 1
      have RA : Hid (∀ V, Below W.heap.size W V → Rst B V xb v L1) := fun V hV => H1.out.later (BWW.out.trans (hV.mono BWW.out.size))
      have RB : Hid (∀ V, Below W.heap.size W V → Rst B V yb u L2) := fun V hV => H2.out.later (BWW.out.trans (hV.mono BWW.out.size))
      go_wp2_with fail
      refine (rvalue_is B W xb v L1 O.key (RA.out W (Below.refl _ _)) (by omega)).mono ?_
      rintro e w' ⟨rfl, rfl⟩
      go_wp2_with fail
      refine (rvalue_is B W yb u L2 O.key (RB.out W (Below.refl _ _)) (by omega)).mono ?_
      rintro e w' ⟨rfl, rfl⟩
      have SAT : Hid (SameAt L1 L2 O.key ↔ (rgV (regM L1 O.key) = rgV (regM L2 O.key) ∧ (regM L1 O.key).isSome = (regM L2 O.key).isSome) ∧ lstM L1 O.key = lstM L2 O.key) := sameAt_iff L1 L2 O.key
      obtain ⟨x1, hx1⟩ : ∃ x, rgV (regM L1 O.key) = x := ⟨_, rfl⟩
      obtain ⟨x2, hx2⟩ : ∃ x, rgV (regM L2 O.key) = x := ⟨_, rfl⟩
      obtain ⟨p1, hp1⟩ : ∃ x, (regM L1 O.key).isSome = x := ⟨_, rfl⟩
      obtain ⟨p2, hp2⟩ : ∃ x, (regM L2 O.key).isSome = x := ⟨_, rfl⟩
      rw [hx1, hx2, hp1, hp2] at SAT
      rw [hx1, hp1, hx2, hp2]
      clear hx1 hx2 hp1 hp2
      go_wp2_with fail
      obtain ⟨l1, hl1'⟩ : ∃ x, lstM L1 O.key = x := ⟨_, rfl⟩
      obtain ⟨l2, hl2'⟩ : ∃ x, lstM L2 O.key = x := ⟨_, rfl⟩
      have HL1 := hid hl1'
      have HL2 := hid hl2'
      rw [hl1', hl2'] at SAT
      clear hl1' hl2'
      have LA : Hid (∀ V, Below W.heap.size W V → Calls Tryd.prog 20 #[.pointer (some ⟨xb, 0, none⟩), .string O.key] V fun e V' => ∃ y, e = .returned y ∧ V'.ownsRow 0 3 1 y l1.length (l1.map (Value.int .i64)) ∧ Below V.heap.size V V') := fun V hV => (rlist_is B V xb v L1 O.key (RA.out V hV) (by omega)).mono fun e V' ⟨y, h1, h2, h3⟩ => ⟨y, h1, own_mono (by rw [HL1.out] at h2; exact h2) (Nat.zero_le _), h3⟩
      have LB : Hid (∀ V, Below W.heap.size W V → Calls Tryd.prog 20 #[.pointer (some ⟨yb, 0, none⟩), .string O.key] V fun e V' => ∃ y, e = .returned y ∧ V'.ownsRow 0 3 1 y l2.length (l2.map (Value.int .i64)) ∧ Below V.heap.size V V') := fun V hV => (rlist_is B V yb u L2 O.key (RB.out V hV) (by omega)).mono fun e V' ⟨y, h1, h2, h3⟩ => ⟨y, h1, own_mono (by rw [HL2.out] at h2; exact h2) (Nat.zero_le _), h3⟩
      have hll1 : l1.length ≤ 1048576 := by have := lst_len L1 O.key; rw [HL1.out] at this; omega
      clear RA RB
      by_cases hx : x1 = x2
      · have hxe := hid hx
        have hx : (x1 != x2) = false := by simp [hx]
        by_cases hp : p1 = p2
        · have hpe := hid hp
          have hp : (p1 != p2) = false := by simp [hp]
          refine wp_region_ask Tryd.mixedOrders (by kernel_rfl) (fun val => { tmps := #[_, _, _, _, _, _, _, _, _, _, _, _, _, _, _, _, _, _, _, _, _, _, _, _, _, _, _, _, _, _, _, _, _, _, _, _, _, _, _, _, _, val 0, val 1, val 2, val 3, val 4, val 5, val 6, val 7, val 8, val 9, val 10, val 11, val 12, val 13, val 14, val 15, val 16, val 17, val 18, val 19, _], defers := [] }) (fun i y V => match i with | 0 => y = .int .i64 x1 | 1 => y = .int .i64 x2 | 2 => y = .bool false | 3 => y = .bool false | 4 => y = .bool p1 | 5 => y = .bool p2 | 6 => y = .bool false | 7 => y = .bool false | 8 => y = .bool false | 9 => y = .pointer (some ⟨xb, 0, none⟩) | 10 => y = .pointer (some ⟨wr.heap.size, 1, none⟩) | 11 => y = .string O.key | 12 => V.ownsRow 0 3 1 y l1.length (l1.map (Value.int .i64)) | 13 => y = .pointer (some ⟨yb, 0, none⟩) | 14 => y = .pointer (some ⟨wr.heap.size, 1, none⟩) | 15 => y = .string O.key | 16 => V.ownsRow 0 3 1 y l2.length (l2.map (Value.int .i64)) | 17 => y = .bool (decide (l1 = l2)) | 18 => y = .bool (!decide (l1 = l2)) | 19 => y = .bool (!decide (l1 = l2)) | _ => True) (fun i => match i with | 0 => u41 | 1 => u42 | 2 => u43 | 3 => u44 | 4 => u45 | 5 => u46 | 6 => u47 | 7 => u48 | 8 => u49 | 9 => u50 | 10 => u51 | 11 => u52 | 12 => u53 | 13 => u54 | 14 => u55 | 15 => u56 | 16 => u57 | 17 => u58 | 18 => u59 | 19 => u60 | _ => undef) rfl (fun i v w w2 hv hbw => by match i, hv with | 12, hv => exact own_same hv (fun g hg => hbw.block g (own_block2 hv hg).2) | 16, hv => exact own_same hv (fun g hg => hbw.block g (own_block2 hv hg).2) | 0, hv => exact hv | 1, hv => exact hv | 2, hv => exact hv | 3, hv => exact hv | 4, hv => exact hv | 5, hv => exact hv | 6, hv => exact hv | 7, hv => exact hv | 8, hv => exact hv | 9, hv => exact hv | 10, hv => exact hv | 11, hv => exact hv | 13, hv => exact hv | 14, hv => exact hv | 15, hv => exact hv | 17, hv => exact hv | 18, hv => exact hv | 19, hv => exact hv | _ + 20, hv => exact hv) _ rfl ⟨?_, ?_, ?_, ?_, ?_, ?_, ?_, ?_, ?_, ?_, ?_, ?_, ?_, ?_, ?_, ?_, ?_, ?_, ?_, ?_, trivial⟩ ?_
          · exact ask_plain rfl (fun _ _ => rfl) (fun val V hb hd => does_value rfl rfl)
          · exact ask_plain rfl (fun _ _ => rfl) (fun val V hb hd => does_value rfl rfl)
          · refine ask_plain rfl (fun _ _ => rfl) (fun val V hb hd => ?_)
            have h0 : val 0 = .int .i64 x1 := depsAll_get hd 0 rfl
            have h1 : val 1 = .int .i64 x2 := depsAll_get hd 1 rfl
            refine does_value (v := .bool false) ?_ rfl
            simp [execOp, Act.eval, h0, h1, go_sem, hx]
          · refine ask_plain rfl (fun _ _ => rfl) (fun val V hb hd => ?_)
            have h0 : val 2 = .bool false := depsAll_get hd 2 rfl
            refine does_value (v := .bool false) ?_ rfl
            simp [execOp, Act.eval, h0, go_sem]
          · refine ask_yes 3 false rfl (fun _ _ => rfl) (fun val V hd => by have hj : val 3 = .bool false := depsAll_get hd 3 rfl; simp [yielded, hj]) (fun val V hb hd => ?_)
            exact does_value rfl rfl
          · refine ask_yes 3 false rfl (fun _ _ => rfl) (fun val V hd => by have hj : val 3 = .bool false := depsAll_get hd 3 rfl; simp [yielded, hj]) (fun val V hb hd => ?_)
            exact does_value rfl rfl
          · refine ask_yes 3 false rfl (fun _ _ => rfl) (fun val V hd => by have hj : val 3 = .bool false := depsAll_get hd 3 rfl; simp [yielded, hj]) (fun val V hb hd => ?_)
            have h0 : val 4 = .bool p1 := depsAll_get hd 4 rfl
            have h1 : val 5 = .bool p2 := depsAll_get hd 5 rfl
            refine does_value (v := .bool false) ?_ rfl
            simp [execOp, Act.eval, h0, h1, go_sem, hp]
            exact hpe.out
          · refine ask_plain rfl (fun _ _ => rfl) (fun val V hb hd => ?_)
            have h0 : val 3 = .bool false := depsAll_get hd 3 rfl
            have h1 : val 6 = .bool false := depsAll_get hd 6 rfl
            refine does_value (v := .bool false) ?_ rfl
            simp [execOp, Act.eval, h0, go_sem, h1]
          · refine ask_plain rfl (fun _ _ => rfl) (fun val V hb hd => ?_)
            have h0 : val 7 = .bool false := depsAll_get hd 7 rfl
            refine does_value (v := .bool false) ?_ rfl
            simp [execOp, Act.eval, h0, go_sem]
          · refine ask_yes 8 false rfl (fun _ _ => rfl) (fun val V hd => by have hj : val 8 = .bool false := depsAll_get hd 8 rfl; simp [yielded, hj]) (fun val V hb hd => ?_)
            exact does_value rfl rfl
          · refine ask_yes 8 false rfl (fun _ _ => rfl) (fun val V hd => by have hj : val 8 = .bool false := depsAll_get hd 8 rfl; simp [yielded, hj]) (fun val V hb hd => ?_)
            refine does_value (v := .pointer (some ⟨wr.heap.size, 1, none⟩)) ?_ rfl
            simp [execOp, Act.eval, go_sem]
          · refine ask_yes 8 false rfl (fun _ _ => rfl) (fun val V hd => by have hj : val 8 = .bool false := depsAll_get hd 8 rfl; simp [yielded, hj]) (fun val V hb hd => ?_)
            have h0 : val 10 = .pointer (some ⟨wr.heap.size, 1, none⟩) := depsAll_get hd 10 rfl
            have dk : V.cell? ⟨wr.heap.size, 1, none⟩ = some (.string O.key) := (World.cell?_of_block (a := ⟨wr.heap.size, 1, none⟩) (hb.block wr.heap.size (blt HBx.out))).trans kb
            refine does_value (v := .string O.key) ?_ rfl
            simp [execOp, Act.eval, h0, go_sem, dk]
          · refine ask_yes 8 false rfl (fun _ _ => rfl) (fun val V hd => by have hj : val 8 = .bool false := depsAll_get hd 8 rfl; simp [yielded, hj]) (fun val V hb hd => ?_)
            have h0 : val 9 = .pointer (some ⟨xb, 0, none⟩) := depsAll_get hd 9 rfl
            have h1 : val 11 = .string O.key := depsAll_get hd 11 rfl
            refine does_call (f := 20) (args := #[.pointer (some ⟨xb, 0, none⟩), .string O.key]) ?_ (LA.out V hb) (fun e V2 h => by obtain ⟨y, h1, h2, h3⟩ := h; exact ⟨y, h1, h2, h3⟩)
            simp [execOp, Act.eval, h0, h1, go_sem]
          · refine ask_yes 8 false rfl (fun _ _ => rfl) (fun val V hd => by have hj : val 8 = .bool false := depsAll_get hd 8 rfl; simp [yielded, hj]) (fun val V hb hd => ?_)
            exact does_value rfl rfl
          · refine ask_yes 8 false rfl (fun _ _ => rfl) (fun val V hd => by have hj : val 8 = .bool false := depsAll_get hd 8 rfl; simp [yielded, hj]) (fun val V hb hd => ?_)
            refine does_value (v := .pointer (some ⟨wr.heap.size, 1, none⟩)) ?_ rfl
            simp [execOp, Act.eval, go_sem]
          · refine ask_yes 8 false rfl (fun _ _ => rfl) (fun val V hd => by have hj : val 8 = .bool false := depsAll_get hd 8 rfl; simp [yielded, hj]) (fun val V hb hd => ?_)
            have h0 : val 14 = .pointer (some ⟨wr.heap.size, 1, none⟩) := depsAll_get hd 14 rfl
            have dk : V.cell? ⟨wr.heap.size, 1, none⟩ = some (.string O.key) := (World.cell?_of_block (a := ⟨wr.heap.size, 1, none⟩) (hb.block wr.heap.size (blt HBx.out))).trans kb
            refine does_value (v := .string O.key) ?_ rfl
            simp [execOp, Act.eval, h0, go_sem, dk]
          · refine ask_yes 8 false rfl (fun _ _ => rfl) (fun val V hd => by have hj : val 8 = .bool false := depsAll_get hd 8 rfl; simp [yielded, hj]) (fun val V hb hd => ?_)
            have h0 : val 13 = .pointer (some ⟨yb, 0, none⟩) := depsAll_get hd 13 rfl
            have h1 : val 15 = .string O.key := depsAll_get hd 15 rfl
            refine does_call (f := 20) (args := #[.pointer (some ⟨yb, 0, none⟩), .string O.key]) ?_ (LB.out V hb) (fun e V2 h => by obtain ⟨y, h1, h2, h3⟩ := h; exact ⟨y, h1, h2, h3⟩)
            simp [execOp, Act.eval, h0, h1, go_sem]
          · refine ask_yes 8 false rfl (fun _ _ => rfl) (fun val V hd => by have hj : val 8 = .bool false := depsAll_get hd 8 rfl; simp [yielded, hj]) (fun val V hb hd => ?_)
            have h12 := depsAll_get hd 12 rfl
            have h16 := depsAll_get hd 16 rfl
            obtain ⟨s1, t1, e1, i1⟩ := own_cells h12
            obtain ⟨s2, t2, e2, i2⟩ := own_cells h16
            refine does_call (f := 19) (args := #[.slice s1 l1.length t1, .slice s2 l2.length t2]) ?_ (sameList_cells s1 s2 t1 t2 _ _ l1 l2 V rfl rfl (by omega) i1 i2) (fun e V2 h => by obtain ⟨h1, q9, h2⟩ := h; exact ⟨_, h1, rfl, by rw [h2]; exact below_drewN (Below.refl _ _) _⟩)
            simp [execOp, Act.eval, e1, e2, go_sem]
          · refine ask_yes 8 false rfl (fun _ _ => rfl) (fun val V hd => by have hj : val 8 = .bool false := depsAll_get hd 8 rfl; simp [yielded, hj]) (fun val V hb hd => ?_)
            have h0 : val 17 = .bool (decide (l1 = l2)) := depsAll_get hd 17 rfl
            refine does_value (v := .bool (!decide (l1 = l2))) ?_ rfl
            simp [execOp, Act.eval, h0, go_sem]
          · refine ask_plain rfl (fun _ _ => rfl) (fun val V hb hd => ?_)
            have h0 : val 8 = .bool false := depsAll_get hd 8 rfl
            have h1 : val 18 = .bool (!decide (l1 = l2)) := depsAll_get hd 18 rfl
            refine does_value (v := .bool (!decide (l1 = l2))) ?_ rfl
            simp [execOp, Act.eval, h0, go_sem, h1]
          intro val V hbV hR
          have h19 : val 19 = .bool (!decide (l1 = l2)) := hR 19 (by decide)
          have BV := hid hbV
          clear hR hbV
          by_cases hl : l1 = l2
          · rw [decide_eq_true hl] at h19
            go_wp2_with fail
            rw [h19]
            go_wp2_with fail
            go_roundg (N - (k + 1))
            case measure => omega
            case rel =>
              refine ⟨k + 1, by omega, by omega, by go_num, BW.out.trans (BV.out.mono BW.out.size), (show Aside _ from fun j hj => ?_)⟩
              by_cases e : j = k
              · subst e
                rw [HO.out]
                exact SAT.out.2 ⟨⟨hxe.out, hpe.out⟩, hl⟩
              · exact SA.out j (by omega)
          · rw [decide_eq_false hl] at h19
            go_wp2_with fail
            rw [h19]
            go_wp2_with fail
            go_ret
            exact ⟨false, rfl, ⟨fun c => (by cases c), fun c => absurd ((SAT.out).1 (c O (by rw [HM.out, ← HO.out]; simp [List.getD, List.getElem?_eq_getElem (show k < M.length by rw [MN.out]; exact hlt)]))) (by intro c2; exact hl c2.2)⟩, BWW.out.trans (BV.out.mono BWW.out.size)⟩
        · have hpn := hp
          have hp : (p1 != p2) = true := by simp [hpn]
          refine wp_region_ask Tryd.mixedOrders (by kernel_rfl) (fun val => { tmps := #[_, _, _, _, _, _, _, _, _, _, _, _, _, _, _, _, _, _, _, _, _, _, _, _, _, _, _, _, _, _, _, _, _, _, _, _, _, _, _, _, _, val 0, val 1, val 2, val 3, val 4, val 5, val 6, val 7, val 8, val 9, val 10, val 11, val 12, val 13, val 14, val 15, val 16, val 17, val 18, val 19, _], defers := [] }) (fun i y V => match i with | 0 => y = .int .i64 x1 | 1 => y = .int .i64 x2 | 2 => y = .bool false | 3 => y = .bool false | 4 => y = .bool p1 | 5 => y = .bool p2 | 6 => y = .bool true | 7 => y = .bool true | 8 => y = .bool true | 19 => y = .bool true | _ => True) (fun i => match i with | 0 => u41 | 1 => u42 | 2 => u43 | 3 => u44 | 4 => u45 | 5 => u46 | 6 => u47 | 7 => u48 | 8 => u49 | 9 => u50 | 10 => u51 | 11 => u52 | 12 => u53 | 13 => u54 | 14 => u55 | 15 => u56 | 16 => u57 | 17 => u58 | 18 => u59 | 19 => u60 | _ => undef) rfl (fun i v w w2 hv _ => hv) _ rfl ⟨?_, ?_, ?_, ?_, ?_, ?_, ?_, ?_, ?_, ?_, ?_, ?_, ?_, ?_, ?_, ?_, ?_, ?_, ?_, ?_, trivial⟩ ?_
          · exact ask_plain rfl (fun _ _ => rfl) (fun val V hb hd => does_value rfl rfl)
          · exact ask_plain rfl (fun _ _ => rfl) (fun val V hb hd => does_value rfl rfl)
          · refine ask_plain rfl (fun _ _ => rfl) (fun val V hb hd => ?_)
            have h0 : val 0 = .int .i64 x1 := depsAll_get hd 0 rfl
            have h1 : val 1 = .int .i64 x2 := depsAll_get hd 1 rfl
            refine does_value (v := .bool false) ?_ rfl
            simp [execOp, Act.eval, h0, h1, go_sem, hx]
          · refine ask_plain rfl (fun _ _ => rfl) (fun val V hb hd => ?_)
            have h0 : val 2 = .bool false := depsAll_get hd 2 rfl
            refine does_value (v := .bool false) ?_ rfl
            simp [execOp, Act.eval, h0, go_sem]
          · refine ask_yes 3 false rfl (fun _ _ => rfl) (fun val V hd => by have hj : val 3 = .bool false := depsAll_get hd 3 rfl; simp [yielded, hj]) (fun val V hb hd => ?_)
            exact does_value rfl rfl
          · refine ask_yes 3 false rfl (fun _ _ => rfl) (fun val V hd => by have hj : val 3 = .bool false := depsAll_get hd 3 rfl; simp [yielded, hj]) (fun val V hb hd => ?_)
            exact does_value rfl rfl
          · refine ask_yes 3 false rfl (fun _ _ => rfl) (fun val V hd => by have hj : val 3 = .bool false := depsAll_get hd 3 rfl; simp [yielded, hj]) (fun val V hb hd => ?_)
            have h0 : val 4 = .bool p1 := depsAll_get hd 4 rfl
            have h1 : val 5 = .bool p2 := depsAll_get hd 5 rfl
            refine does_value (v := .bool true) ?_ rfl
            simp [execOp, Act.eval, h0, h1, go_sem, hp]
            exact hpn
          · refine ask_plain rfl (fun _ _ => rfl) (fun val V hb hd => ?_)
            have h0 : val 3 = .bool false := depsAll_get hd 3 rfl
            have h1 : val 6 = .bool true := depsAll_get hd 6 rfl
            refine does_value (v := .bool true) ?_ rfl
            simp [execOp, Act.eval, h0, go_sem, h1]
          · refine ask_plain rfl (fun _ _ => rfl) (fun val V hb hd => ?_)
            have h0 : val 7 = .bool true := depsAll_get hd 7 rfl
            refine does_value (v := .bool true) ?_ rfl
            simp [execOp, Act.eval, h0, go_sem]
          · exact ask_no 8 false true rfl (by decide) (fun _ _ => rfl) (fun val V hd => by have hj : val 8 = .bool true := depsAll_get hd 8 rfl; simp [yielded, hj]) (fun _ => trivial)
          · exact ask_no 8 false true rfl (by decide) (fun _ _ => rfl) (fun val V hd => by have hj : val 8 = .bool true := depsAll_get hd 8 rfl; simp [yielded, hj]) (fun _ => trivial)
          · exact ask_no 8 false true rfl (by decide) (fun _ _ => rfl) (fun val V hd => by have hj : val 8 = .bool true := depsAll_get hd 8 rfl; simp [yielded, hj]) (fun _ => trivial)
          · exact ask_no 8 false true rfl (by decide) (fun _ _ => rfl) (fun val V hd => by have hj : val 8 = .bool true := depsAll_get hd 8 rfl; simp [yielded, hj]) (fun _ => trivial)
          · exact ask_no 8 false true rfl (by decide) (fun _ _ => rfl) (fun val V hd => by have hj : val 8 = .bool true := depsAll_get hd 8 rfl; simp [yielded, hj]) (fun _ => trivial)
          · exact ask_no 8 false true rfl (by decide) (fun _ _ => rfl) (fun val V hd => by have hj : val 8 = .bool true := depsAll_get hd 8 rfl; simp [yielded, hj]) (fun _ => trivial)
          · exact ask_no 8 false true rfl (by decide) (fun _ _ => rfl) (fun val V hd => by have hj : val 8 = .bool true := depsAll_get hd 8 rfl; simp [yielded, hj]) (fun _ => trivial)
          · exact ask_no 8 false true rfl (by decide) (fun _ _ => rfl) (fun val V hd => by have hj : val 8 = .bool true := depsAll_get hd 8 rfl; simp [yielded, hj]) (fun _ => trivial)
          · exact ask_no 8 false true rfl (by decide) (fun _ _ => rfl) (fun val V hd => by have hj : val 8 = .bool true := depsAll_get hd 8 rfl; simp [yielded, hj]) (fun _ => trivial)
          · exact ask_no 8 false true rfl (by decide) (fun _ _ => rfl) (fun val V hd => by have hj : val 8 = .bool true := depsAll_get hd 8 rfl; simp [yielded, hj]) (fun _ => trivial)
          · refine ask_plain rfl (fun _ _ => rfl) (fun val V hb hd => ?_)
            have h0 : val 8 = .bool true := depsAll_get hd 8 rfl
            refine does_value (v := .bool true) ?_ rfl
            simp [execOp, Act.eval, h0, go_sem]
          intro val V hbV hR
          have h19 : val 19 = .bool true := hR 19 (by decide)
          have BV := hid hbV
          clear hR hbV
          go_wp2_with fail
          rw [h19]
          go_wp2_with fail
          go_ret
          exact ⟨false, rfl, ⟨fun c => (by cases c), fun c => absurd ((SAT.out).1 (c O (by rw [HM.out, ← HO.out]; simp [List.getD, List.getElem?_eq_getElem (show k < M.length by rw [MN.out]; exact hlt)]))) (by intro c2; exact hpn c2.1.2)⟩, BWW.out.trans (BV.out.mono BWW.out.size)⟩
      · have hxn := hx
        have hx : (x1 != x2) = true := by simp [hxn]
        refine wp_region_ask Tryd.mixedOrders (by kernel_rfl) (fun val => { tmps := #[_, _, _, _, _, _, _, _, _, _, _, _, _, _, _, _, _, _, _, _, _, _, _, _, _, _, _, _, _, _, _, _, _, _, _, _, _, _, _, _, _, val 0, val 1, val 2, val 3, val 4, val 5, val 6, val 7, val 8, val 9, val 10, val 11, val 12, val 13, val 14, val 15, val 16, val 17, val 18, val 19, _], defers := [] }) (fun i y V => match i with | 0 => y = .int .i64 x1 | 1 => y = .int .i64 x2 | 2 => y = .bool true | 3 => y = .bool true | 7 => y = .bool true | 8 => y = .bool true | 19 => y = .bool true | _ => True) (fun i => match i with | 0 => u41 | 1 => u42 | 2 => u43 | 3 => u44 | 4 => u45 | 5 => u46 | 6 => u47 | 7 => u48 | 8 => u49 | 9 => u50 | 10 => u51 | 11 => u52 | 12 => u53 | 13 => u54 | 14 => u55 | 15 => u56 | 16 => u57 | 17 => u58 | 18 => u59 | 19 => u60 | _ => undef) rfl (fun i v w w2 hv _ => hv) _ rfl ⟨?_, ?_, ?_, ?_, ?_, ?_, ?_, ?_, ?_, ?_, ?_, ?_, ?_, ?_, ?_, ?_, ?_, ?_, ?_, ?_, trivial⟩ ?_
        · exact ask_plain rfl (fun _ _ => rfl) (fun val V hb hd => does_value rfl rfl)
        · exact ask_plain rfl (fun _ _ => rfl) (fun val V hb hd => does_value rfl rfl)
        · refine ask_plain rfl (fun _ _ => rfl) (fun val V hb hd => ?_)
          have h0 : val 0 = .int .i64 x1 := depsAll_get hd 0 rfl
          have h1 : val 1 = .int .i64 x2 := depsAll_get hd 1 rfl
          refine does_value (v := .bool true) ?_ rfl
          simp [execOp, Act.eval, h0, h1, go_sem, hx]
        · refine ask_plain rfl (fun _ _ => rfl) (fun val V hb hd => ?_)
          have h0 : val 2 = .bool true := depsAll_get hd 2 rfl
          refine does_value (v := .bool true) ?_ rfl
          simp [execOp, Act.eval, h0, go_sem]
        · exact ask_no 3 false true rfl (by decide) (fun _ _ => rfl) (fun val V hd => by have hj : val 3 = .bool true := depsAll_get hd 3 rfl; simp [yielded, hj]) (fun _ => trivial)
        · exact ask_no 3 false true rfl (by decide) (fun _ _ => rfl) (fun val V hd => by have hj : val 3 = .bool true := depsAll_get hd 3 rfl; simp [yielded, hj]) (fun _ => trivial)
        · exact ask_no 3 false true rfl (by decide) (fun _ _ => rfl) (fun val V hd => by have hj : val 3 = .bool true := depsAll_get hd 3 rfl; simp [yielded, hj]) (fun _ => trivial)
        · refine ask_plain rfl (fun _ _ => rfl) (fun val V hb hd => ?_)
          have h0 : val 3 = .bool true := depsAll_get hd 3 rfl
          refine does_value (v := .bool true) ?_ rfl
          simp [execOp, Act.eval, h0, go_sem]
        · refine ask_plain rfl (fun _ _ => rfl) (fun val V hb hd => ?_)
          have h0 : val 7 = .bool true := depsAll_get hd 7 rfl
          refine does_value (v := .bool true) ?_ rfl
          simp [execOp, Act.eval, h0, go_sem]
        · exact ask_no 8 false true rfl (by decide) (fun _ _ => rfl) (fun val V hd => by have hj : val 8 = .bool true := depsAll_get hd 8 rfl; simp [yielded, hj]) (fun _ => trivial)
        · exact ask_no 8 false true rfl (by decide) (fun _ _ => rfl) (fun val V hd => by have hj : val 8 = .bool true := depsAll_get hd 8 rfl; simp [yielded, hj]) (fun _ => trivial)
        · exact ask_no 8 false true rfl (by decide) (fun _ _ => rfl) (fun val V hd => by have hj : val 8 = .bool true := depsAll_get hd 8 rfl; simp [yielded, hj]) (fun _ => trivial)
        · exact ask_no 8 false true rfl (by decide) (fun _ _ => rfl) (fun val V hd => by have hj : val 8 = .bool true := depsAll_get hd 8 rfl; simp [yielded, hj]) (fun _ => trivial)
        · exact ask_no 8 false true rfl (by decide) (fun _ _ => rfl) (fun val V hd => by have hj : val 8 = .bool true := depsAll_get hd 8 rfl; simp [yielded, hj]) (fun _ => trivial)
        · exact ask_no 8 false true rfl (by decide) (fun _ _ => rfl) (fun val V hd => by have hj : val 8 = .bool true := depsAll_get hd 8 rfl; simp [yielded, hj]) (fun _ => trivial)
        · exact ask_no 8 false true rfl (by decide) (fun _ _ => rfl) (fun val V hd => by have hj : val 8 = .bool true := depsAll_get hd 8 rfl; simp [yielded, hj]) (fun _ => trivial)
        · exact ask_no 8 false true rfl (by decide) (fun _ _ => rfl) (fun val V hd => by have hj : val 8 = .bool true := depsAll_get hd 8 rfl; simp [yielded, hj]) (fun _ => trivial)
        · exact ask_no 8 false true rfl (by decide) (fun _ _ => rfl) (fun val V hd => by have hj : val 8 = .bool true := depsAll_get hd 8 rfl; simp [yielded, hj]) (fun _ => trivial)
        · exact ask_no 8 false true rfl (by decide) (fun _ _ => rfl) (fun val V hd => by have hj : val 8 = .bool true := depsAll_get hd 8 rfl; simp [yielded, hj]) (fun _ => trivial)
        · refine ask_plain rfl (fun _ _ => rfl) (fun val V hb hd => ?_)
          have h0 : val 8 = .bool true := depsAll_get hd 8 rfl
          refine does_value (v := .bool true) ?_ rfl
          simp [execOp, Act.eval, h0, go_sem]
        intro val V hbV hR
        have h19 : val 19 = .bool true := hR 19 (by decide)
        have BV := hid hbV
        clear hR hbV
        go_wp2_with fail
        rw [h19]
        go_wp2_with fail
        go_ret
        exact ⟨false, rfl, ⟨fun c => (by cases c), fun c => absurd ((SAT.out).1 (c O (by rw [HM.out, ← HO.out]; simp [List.getD, List.getElem?_eq_getElem (show k < M.length by rw [MN.out]; exact hlt)]))) (by intro c2; exact hxn c2.1.1)⟩, BWW.out.trans (BV.out.mono BWW.out.size)⟩
    · obtain rfl : k = N := by omega
      go_wp2_with fail
      go_ret
      refine ⟨true, rfl, ⟨fun _ o ho => ?_, fun _ => rfl⟩, B1.out.trans (BR.out.mono B1.out.size)⟩
      rw [HM.out] at ho
      obtain ⟨j, hj, e⟩ := List.mem_iff_getElem.1 ho
      rw [MN.out] at hj
      have q := SA.out j hj
      have e2 : M.getD j default = o := by simp [List.getD, List.getElem?_eq_getElem (show j < M.length by rw [MN.out]; exact hj), e]
      rw [e2] at q
      exact q
end Go.Proofs.YtjeheknhpfkaiaaDoor
