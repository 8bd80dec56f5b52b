/-
  A look while lookAt fills it.
-/
import Derived.Test.YtnfbcmnlloipiaaLg14
namespace Go.Proofs.Ytnfbcmnlloipiaa
set_option linter.unusedVariables false
set_option linter.unusedSimpArgs false
open Go.RowKit Go.Lib Go.Maps
open Tx (MTxn)

/-- The reads of a look, with their lists in the blocks of D. -/
structure RdsD (D : Nat → Prop) (w : World) (R : List MRd) (RX : List MRx) : Prop where
  len : R.length = RX.length
  at' : ∀ j, j < R.length → ∃ a c, R.getD j default = ((RX.getD j default).1, (RX.getD j default).2.1, a, (RX.getD j default).2.2.length, c) ∧ IntsIn D w (.slice a (RX.getD j default).2.2.length c) (RX.getD j default).2.2 ∧ ∀ x ∈ (RX.getD j default).2.2, (Lit.int .i64 x).wf = true
theorem RdsD.rds {D : Nat → Prop} {w : World} {R : List MRd} {RX : List MRx} (h : RdsD D w R RX) : Rds w R RX := ⟨h.len, fun j hj => by
  obtain ⟨a, c, h1, h2, h3⟩ := h.at' j hj
  exact ⟨a, c, h1, h2.keep (fun _ _ _ => rfl) (fun _ _ _ => trivial), h3⟩⟩
theorem RdsD.keep {D T : Nat → Prop} {w w' : World} {R : List MRd} {RX : List MRx} (h : RdsD D w R RX) (hk : KeepsIn D w w') (hT : ∀ b, b < w.heap.size → D b → T b) : RdsD T w' R RX := ⟨h.len, fun j hj => by
  obtain ⟨a, c, h1, h2, h3⟩ := h.at' j hj
  exact ⟨a, c, h1, h2.keep hk hT, h3⟩⟩
theorem RdsD.snoc {D : Nat → Prop} {w : World} {R : List MRd} {RX : List MRx} (h : RdsD D w R RX) (ri rj : Nat) (la : Option Addr) (lc : Nat) (xs : List Int) (hx : IntsIn D w (.slice la xs.length lc) xs) (hw : ∀ x ∈ xs, (Lit.int .i64 x).wf = true) : RdsD D w (R ++ [(ri, rj, la, xs.length, lc)]) (RX ++ [(ri, rj, xs)]) := by
  refine ⟨by simp [h.len], fun j hj => ?_⟩
  by_cases hl : j < R.length
  · obtain ⟨a, c, h1, h2, h3⟩ := h.at' j hl
    have e1 : (R ++ [(ri, rj, la, xs.length, lc)]).getD j default = R.getD j default := by simp [List.getD, List.getElem?_append_left hl]
    have e2 : (RX ++ [(ri, rj, xs)]).getD j default = RX.getD j default := by simp [List.getD, List.getElem?_append_left (show j < RX.length from h.len ▸ hl)]
    rw [e1, e2]
    exact ⟨a, c, h1, h2, h3⟩
  · have hj' : j = R.length := by
      have : j < R.length + 1 := by simpa using hj
      omega
    subst hj'
    have e1 : (R ++ [(ri, rj, la, xs.length, lc)]).getD R.length default = (ri, rj, la, xs.length, lc) := by simp [List.getD]
    have e2 : (RX ++ [(ri, rj, xs)]).getD R.length default = (ri, rj, xs) := by rw [h.len]; simp [List.getD]
    rw [e1, e2]
    exact ⟨la, lc, rfl, hx, hw⟩
abbrev zeroLk : Array Value := #[.string ⟨#[]⟩, .slice none 0 0, .int .i64 0, .int .i64 0, .slice none 0 0, .map none]
/-- The look, in its place, with what it holds of M. -/
structure Lkg (l : List MTxn) (s : ByteArray) (w : World) (D : Nat → Prop) (M : List MN) (wr : World) (R : List MRd) (t2 : Nat) (ta : Option Addr) (tc n : Nat) (rv : Value) : Prop where
  lg : Lg (w.heap.size + 3) wr (w.heap.size + 2) s rv R ((knwN l s M).ti, t2, ta, (knwN l s M).ts.length, tc) (w.heap.size + 1)
  rd : RdsD D wr R (rdsN l s M)
  tr : IntsIn D wr (.slice ta (knwN l s M).ts.length tc) (knwN l s M).ts
  sc : Sc wr (w.heap.size + 1) n (srcN l s M)
  nl : n ≤ M.length
  lo : ∀ b, D b → w.heap.size + 3 ≤ b ∧ b < wr.heap.size
  ap : ∀ g, rv.ownBlock = some g → ¬ D g
  zb : wr.heap[w.heap.size]? = some (.cells zeroLk 80)
  bl : Below w.heap.size w wr
def LkE (l : List MTxn) (s : ByteArray) (w : World) (D : Nat → Prop) (M : List MN) (wr : World) : Prop := ∃ R t2 ta tc n rv, Lkg l s w D M wr R t2 ta tc n rv
section
variable {l : List MTxn} {s : ByteArray} {w : World} {D : Nat → Prop} {M : List MN} {wr : World}
theorem LkE.big (h : LkE l s w D M wr) : w.heap.size + 3 ≤ wr.heap.size := by
  obtain ⟨R, t2, ta, tc, n, rv, h⟩ := h
  exact blt h.lg.box
theorem LkE.below (h : LkE l s w D M wr) : Below w.heap.size w wr := by
  obtain ⟨R, t2, ta, tc, n, rv, h⟩ := h
  exact h.bl
/-- Nothing of the look is changed, and some blocks are new. -/
theorem LkE.txn (h : LkE l s w D M wr) {w' : World} (hb : Below wr.heap.size wr w') : LkE l s w (fun b => D b ∨ (wr.heap.size ≤ b ∧ b < w'.heap.size)) M w' := by
  have hbig := h.big
  obtain ⟨R, t2, ta, tc, n, rv, h⟩ := h
  have hs := hb.size
  have keep : KeepsIn D wr w' := fun b hD hl => hb.block b hl
  refine ⟨R, t2, ta, tc, n, rv, h.lg.same (hb.block _ (by omega)) (fun g hg => hb.block g (own_block h.lg.own hg).2.1), h.rd.keep keep (fun b _ hD => .inl hD), h.tr.keep keep (fun b _ hD => .inl hD), h.sc.same (hb.block _ (by omega)), h.nl, fun b hD => ?_, fun g hg c => ?_, (hb.block _ (by omega)).trans h.zb, h.bl.trans (hb.mono (by omega))⟩
  · rcases hD with hD | ⟨h1, h2⟩
    · have := h.lo b hD
      exact ⟨this.1, by omega⟩
    · exact ⟨by omega, h2⟩
  · rcases c with c | ⟨h1, _⟩
    · exact h.ap g hg c
    · have := (own_block h.lg.own hg).2.1
      omega
theorem LkE.later (h : LkE l s w D M wr) {w' : World} (hb : Below wr.heap.size wr w') : LkE l s w D M w' := by
  have hbig := h.big
  obtain ⟨R, t2, ta, tc, n, rv, h⟩ := h
  have hs := hb.size
  have keep : KeepsIn D wr w' := fun b hD hl => hb.block b hl
  exact ⟨R, t2, ta, tc, n, rv, h.lg.same (hb.block _ (by omega)) (fun g hg => hb.block g (own_block h.lg.own hg).2.1), h.rd.keep keep (fun b _ hD => hD), h.tr.keep keep (fun b _ hD => hD), h.sc.same (hb.block _ (by omega)), h.nl, fun b hD => ⟨(h.lo b hD).1, by have := (h.lo b hD).2; omega⟩, h.ap, (hb.block _ (by omega)).trans h.zb, h.bl.trans (hb.mono (by omega))⟩
theorem knw_snoc (l : List MTxn) (s : ByteArray) (M : List MN) (x : MN) (hr : isRd s (l.getD x.1 default).state x.2.2 = false) (hw : ∀ v, hitW s v x = false) : knwN l s (M ++ [x]) = knwN l s M := by
  have e1 : rdsN l s (M ++ [x]) = rdsN l s M := by rw [rds_snoc, hr]; simp
  have e2 : srcN l s (M ++ [x]) = srcN l s M := funext fun v => by rw [src_snoc, hw]; simp
  unfold knwN
  rw [e1, e2]
theorem LkE.skip (h : LkE l s w D M wr) (x : MN) (hr : isRd s (l.getD x.1 default).state x.2.2 = false) (hw : ∀ v, hitW s v x = false) : LkE l s w D (M ++ [x]) wr := by
  have ek := knw_snoc l s M x hr hw
  have e1 : rdsN l s (M ++ [x]) = rdsN l s M := by rw [rds_snoc, hr]; simp
  have e2 : srcN l s (M ++ [x]) = srcN l s M := funext fun v => by rw [src_snoc, hw]; simp
  obtain ⟨R, t2, ta, tc, n, rv, h⟩ := h
  exact ⟨R, t2, ta, tc, n, rv, by rw [ek]; exact h.lg, by rw [e1]; exact h.rd, by rw [ek]; exact h.tr, by rw [e2]; exact h.sc, by have := h.nl; simp; omega, h.lo, h.ap, h.zb, h.bl⟩
/-- A write is put into the sources. -/
theorem LkE.put (h : LkE l s w D M wr) (x : MN) (hM : M.length ≤ 100000) (hk : isW x.2.2.kind = true) (hs : x.2.2.key = s) (hv : (Lit.int .i64 x.2.2.value).wf = true) : ∃ w', (Instr.mapUpdate 78 (.map (some (w.heap.size + 1))) (.int .i64 x.2.2.value) (.agg #[.int .i64 x.1, .int .i64 x.2.1, .bool (failB (l.getD x.1 default).state), .bool (finB (l.getD x.1 default).ops x.2.1)])).run Try.prog wr = .ok () w' ∧ LkE l s w D (M ++ [x]) w' ∧ wr.grownBy w' (some (w.heap.size + 1)) := by
  have hbig := h.big
  obtain ⟨R, t2, ta, tc, n, rv, h⟩ := h
  obtain ⟨w', hrun, hsc, hg⟩ := h.sc.put (by unfold maxLen; have := h.nl; omega) x.2.2.value hv (srcOf l x)
  have hr : isRd s (l.getD x.1 default).state x.2.2 = false := by
    have : (x.2.2.kind == 2) = false := by
      cases hc : x.2.2.kind == 2 with
      | false => rfl
      | true =>
        have : x.2.2.kind = 2 := by simpa using hc
        rw [this] at hk
        exact absurd hk (by decide)
    simp [isRd, this]
  have e1 : rdsN l s (M ++ [x]) = rdsN l s M := by rw [rds_snoc, hr]; simp
  have e2 : srcN l s (M ++ [x]) = fun z => if z = x.2.2.value then some (srcOf l x) else srcN l s M z := funext fun v => by
    rw [src_snoc]
    by_cases hc : v = x.2.2.value
    · simp [hitW, hk, hs, hc]
    · have hc' : ¬ x.2.2.value = v := fun e => hc e.symm
      simp [hitW, hk, hs, hc, hc']
  have ek1 : (knwN l s (M ++ [x])).ti = (knwN l s M).ti := by unfold knwN; rw [e1]
  have ek2 : (knwN l s (M ++ [x])).ts = (knwN l s M).ts := by unfold knwN; rw [e1]
  have same : ∀ b, b < wr.heap.size → b ≠ w.heap.size + 1 → w'.heap[b]? = wr.heap[b]? := fun b hb hn => hg.block b hb (fun e => hn (by injection e))
  have keep : KeepsIn D wr w' := fun b hD hl => same b hl (by have := (h.lo b hD).1; omega)
  refine ⟨w', hrun, ⟨R, t2, ta, tc, n + 1, rv, ?_, by rw [e1]; exact h.rd.keep keep (fun b _ hD => hD), by rw [ek2]; exact h.tr.keep keep (fun b _ hD => hD), by rw [e2]; exact hsc, by have := h.nl; simp; omega, fun b hD => ⟨(h.lo b hD).1, by have := (h.lo b hD).2; have := hg.size; omega⟩, h.ap, (same _ (by omega) (by omega)).trans h.zb, ?_⟩, hg⟩
  · rw [ek1, ek2]
    exact h.lg.same (same _ (by omega) (by omega)) (fun g hg' => same g (own_block h.lg.own hg').2.1 (by have := (own_block h.lg.own hg').1; omega))
  · exact h.bl.trans ⟨hg.os, hg.tape, hg.output, hg.size, fun b hb => same b (by have := h.bl.size; omega) (by omega)⟩
/-- A read is noted. -/
theorem LkE.note (h : LkE l s w D M wr) (x : MN) (hM : M.length ≤ 100000) (hr : isRd s (l.getD x.1 default).state x.2.2 = true) (la : Option Addr) (lc : Nat) (hx : IntsIn D wr (.slice la x.2.2.list.length lc) x.2.2.list) (hw : ∀ y ∈ x.2.2.list, (Lit.int .i64 y).wf = true) : Calls Try.prog 69 #[.pointer (some ⟨w.heap.size + 2, 0, none⟩), .agg #[.int .i64 x.1, .int .i64 x.2.1, .slice la x.2.2.list.length lc]] wr fun e w' => e = .returned (.tuple #[]) ∧ LkE l s w D (M ++ [x]) w' ∧ KeepsIn D wr w' := by
  have hbig := h.big
  obtain ⟨R, t2, ta, tc, n, rv, h⟩ := h
  have e1 : rdsN l s (M ++ [x]) = rdsN l s M ++ [(x.1, x.2.1, x.2.2.list)] := by rw [rds_snoc, hr]; simp
  have hk2 : x.2.2.kind = 2 := by
    simp only [isRd, Bool.and_eq_true, beq_iff_eq, decide_eq_true_eq] at hr
    exact hr.1.1.2
  have e2 : srcN l s (M ++ [x]) = srcN l s M := funext fun v => by
    rw [src_snoc]
    have : isW x.2.2.kind = false := by rw [hk2]; decide
    simp [hitW, this]
  have hRl : R.length ≤ 100000 := by
    rw [h.rd.len]
    exact Nat.le_trans (rds_len l s M) hM
  have fin : ∀ (w' : World) (rv' : Value) (t' : Nat × Nat × Option Addr × Nat), Lg (w.heap.size + 3) w' (w.heap.size + 2) s rv' (R ++ [(x.1, x.2.1, la, x.2.2.list.length, lc)]) ((knwN l s (M ++ [x])).ti, t'.2.1, t'.2.2.1, (knwN l s (M ++ [x])).ts.length, t'.2.2.2) (w.heap.size + 1) → IntsIn D wr (.slice t'.2.2.1 (knwN l s (M ++ [x])).ts.length t'.2.2.2) (knwN l s (M ++ [x])).ts → Gro (fun b => b = w.heap.size + 2 ∨ rv.ownBlock = some b) wr w' → (∀ g, rv'.ownBlock = some g → rv.ownBlock = some g ∨ wr.heap.size ≤ g) → LkE l s w D (M ++ [x]) w' ∧ KeepsIn D wr w' := by
    intro w' rv' t' hlg htr hG hrv
    have keep : KeepsIn D wr w' := fun b hD hl => hG.block b hl (fun c => by
      rcases c with c | c
      · have := (h.lo b hD).1
        omega
      · exact h.ap b c hD)
    have hown : ∀ g, rv.ownBlock = some g → w.heap.size + 3 ≤ g := fun g hg => (own_block h.lg.own hg).1
    refine ⟨⟨_, t'.2.1, t'.2.2.1, t'.2.2.2, n, rv', hlg, ?_, htr.keep keep (fun b _ hD => hD), ?_, by have := h.nl; simp; omega, fun b hD => ⟨(h.lo b hD).1, by have := (h.lo b hD).2; have := hG.size; omega⟩, fun g hg c => ?_, (hG.block _ (by omega) (fun c => ?_)).trans h.zb, ?_⟩, keep⟩
    · rw [e1]
      exact (h.rd.keep keep (fun b _ hD => hD)).snoc _ _ la lc _ (hx.keep keep (fun b _ hD => hD)) hw
    · rw [e2]
      refine h.sc.same (hG.block _ (by omega) (fun c => ?_))
      rcases c with c | c
      · omega
      · have := hown _ c
        omega
    · rcases hrv g hg with h1 | h1
      · exact h.ap g h1 c
      · have := (h.lo g c).2
        omega
    · rcases c with c | c
      · omega
      · have := hown _ c
        omega
    · refine h.bl.trans (hG.below h.bl.size (fun i hi c => ?_))
      rcases c with c | c
      · omega
      · have := hown _ c
        omega
  have ek : longR (rdsN l s (M ++ [x])) = longS (longR (rdsN l s M)) (x.1, x.2.1, x.2.2.list) := by rw [e1, long_snoc]
  by_cases hm : (knwN l s M).ts.length < x.2.2.list.length
  · have ek : longR (rdsN l s (M ++ [x])) = (x.1, x.2.1, x.2.2.list) := ek.trans (if_pos hm)
    have k1 : (knwN l s (M ++ [x])).ti = x.1 := by
      show (longR (rdsN l s (M ++ [x]))).1 = _
      rw [ek]
    have k2 : (knwN l s (M ++ [x])).ts = x.2.2.list := by
      show (longR (rdsN l s (M ++ [x]))).2.2 = _
      rw [ek]
    refine (note_long (w.heap.size + 3) (w.heap.size + 2) (w.heap.size + 1) s rv R _ t2 ta _ tc x.1 x.2.1 la _ lc wr h.lg hRl (by omega) hm).mono ?_
    rintro e w' ⟨rfl, rv', hlg, hG, hrv⟩
    exact ⟨rfl, fin w' rv' (0, x.2.1, la, lc) (by rw [k1, k2]; exact hlg) (by rw [k2]; exact hx) hG hrv⟩
  · have ek : longR (rdsN l s (M ++ [x])) = longR (rdsN l s M) := ek.trans (if_neg hm)
    have k1 : (knwN l s (M ++ [x])).ti = (knwN l s M).ti := by
      show (longR (rdsN l s (M ++ [x]))).1 = _
      rw [ek]
      rfl
    have k2 : (knwN l s (M ++ [x])).ts = (knwN l s M).ts := by
      show (longR (rdsN l s (M ++ [x]))).2.2 = _
      rw [ek]
      rfl
    refine (note_short (w.heap.size + 3) (w.heap.size + 2) (w.heap.size + 1) s rv R _ t2 ta _ tc x.1 x.2.1 la _ lc wr h.lg hRl (by omega) hm).mono ?_
    rintro e w' ⟨rfl, rv', hlg, hG, hrv⟩
    exact ⟨rfl, fin w' rv' (0, t2, ta, tc) (by rw [k1, k2]; exact hlg) (by rw [k2]; exact h.tr) hG hrv⟩
end
end Go.Proofs.Ytnfbcmnlloipiaa
