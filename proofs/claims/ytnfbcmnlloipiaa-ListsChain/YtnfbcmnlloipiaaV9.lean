/-
  Which writes are a transaction's last ones of their keys: plain; the table's Final, the document's Final.
  What a look holds of a table's transactions, plain.
  A look while lookAt fills it.
  The table's Final.
  The document's Final.
-/
import Derived.Test.YtnfbcmnlloipiaaV8
import Derived.Test.YtnfbcmnlloipiaaV5
import Derived.Shelf.SlSortCmp.QuietGrown
import Derived.BigQuiet
namespace Go.Proofs.Ytnfbcmnlloipiaa
set_option linter.unusedVariables false
set_option linter.unusedSimpArgs false
open Go.RowKit Go.Lib Go.Maps Go.Sort
open Tx (MTxn info_parts flatten_len flatten_get RowsIn.cells RowCells TxnRow TxnsIn TxnsOwn setCell_self cloneInts_any OpsOwn smallL cutTxn cutOp)

/-- The operation at a place is a write, the last one of its key. -/
def finT (T : List MOp) (i : Nat) : Prop := i < T.length ∧ isW (T.getD i default).kind = true ∧ ∀ j, i < j → j < T.length → ¬ (isW (T.getD j default).kind = true ∧ (T.getD j default).key = (T.getD i default).key)
def finL (l : List MTxn) (t i : Int) : Prop := 0 ≤ t ∧ t < l.length ∧ 0 ≤ i ∧ finT (l.getD t.toNat default).ops i.toNat
/-- The last write of a key among the first k operations of a transaction. -/
theorem last_take (t : Nat) (T : List MOp) (s : ByteArray) : ∀ k, k ≤ T.length → ∀ i, lastN ((notesT t T).take k) t s = some i ↔ (i < k ∧ isW (T.getD i default).kind = true ∧ (T.getD i default).key = s ∧ ∀ j, i < j → j < k → ¬ (isW (T.getD j default).kind = true ∧ (T.getD j default).key = s))
  | 0, _, i => by simp [lastN]
  | k + 1, hk, i => by
    rw [notesT_take t T k (by omega), last_snoc]
    have ih := last_take t T s k (by omega) i
    by_cases h : hitL t s (t, k, T.getD k default) = true
    · rw [if_pos h]
      unfold hitL at h
      simp only [Bool.and_eq_true, decide_eq_true_eq] at h
      constructor
      · intro e
        have e' : k = i := Option.some.inj e
        subst e'
        exact ⟨by omega, h.1.1, h.2, fun j h1 h2 => by omega⟩
      · rintro ⟨h1, h2, h3, h4⟩
        by_cases e : i = k
        · rw [e]
        · exact absurd ⟨h.1.1, h.2⟩ (h4 k (by omega) (by omega))
    · rw [if_neg h, ih]
      have hn : ¬ (isW (T.getD k default).kind = true ∧ (T.getD k default).key = s) := fun c => h (by
        unfold hitL
        simp only [Bool.and_eq_true, decide_eq_true_eq]
        exact ⟨⟨c.1, trivial⟩, c.2⟩)
      constructor
      · rintro ⟨h1, h2, h3, h4⟩
        exact ⟨by omega, h2, h3, fun j a b => by
          by_cases e : j = k
          · rw [e]; exact hn
          · exact h4 j a (by omega)⟩
      · rintro ⟨h1, h2, h3, h4⟩
        have hik : i ≠ k := fun e => hn (by rw [← e]; exact ⟨h2, h3⟩)
        exact ⟨by omega, h2, h3, fun j a b => h4 j a (by omega)⟩
theorem last_append (N M : List MN) (t : Nat) (s : ByteArray) (h : ∀ x ∈ M, x.1 ≠ t) : lastN (N ++ M) t s = lastN N t s := by
  unfold lastN
  rw [List.filter_append]
  have e : M.filter (hitL t s) = [] := by
    rw [List.filter_eq_nil_iff]
    intro x hx
    have := h x hx
    simp [hitL, this]
  rw [e, List.append_nil]
theorem last_front (N M : List MN) (t : Nat) (s : ByteArray) (h : ∀ x ∈ N, x.1 ≠ t) : lastN (N ++ M) t s = lastN M t s := by
  unfold lastN
  rw [List.filter_append]
  have e : N.filter (hitL t s) = [] := by
    rw [List.filter_eq_nil_iff]
    intro x hx
    have := h x hx
    simp [hitL, this]
  rw [e, List.nil_append]
theorem notes_fst (l : List MTxn) : ∀ n x, x ∈ notes l n → x.1 < n
  | 0, x, h => by simp [notes] at h
  | n + 1, x, h => by
    rw [notes] at h
    rcases List.mem_append.1 h with h | h
    · have := notes_fst l n x h
      omega
    · obtain ⟨j, _, rfl⟩ := List.mem_map.1 h
      exact Nat.lt_succ_self _
theorem last_notes (l : List MTxn) (t : Nat) (s : ByteArray) : ∀ n, t < n → lastN (notes l n) t s = lastN (notesT t (l.getD t default).ops) t s
  | 0, h => absurd h (Nat.not_lt_zero _)
  | n + 1, h => by
    rw [notes]
    by_cases e : t = n
    · subst e
      exact last_front _ _ _ _ (fun x hx => by have := notes_fst l t x hx; omega)
    · rw [last_append _ _ _ _ (fun x hx => by
        obtain ⟨j, _, rfl⟩ := List.mem_map.1 hx
        exact fun c => e c.symm)]
      exact last_notes l t s n (by omega)
theorem lastN_is (l : List MTxn) (t : Nat) (ht : t < l.length) (s : ByteArray) (i : Nat) : lastN (notes l l.length) t s = some i ↔ (i < (l.getD t default).ops.length ∧ isW ((l.getD t default).ops.getD i default).kind = true ∧ ((l.getD t default).ops.getD i default).key = s ∧ ∀ j, i < j → j < (l.getD t default).ops.length → ¬ (isW ((l.getD t default).ops.getD j default).kind = true ∧ ((l.getD t default).ops.getD j default).key = s)) := by
  rw [last_notes l t s l.length ht]
  have := last_take t (l.getD t default).ops s (l.getD t default).ops.length (Nat.le_refl _) i
  rw [List.take_of_length_le (by rw [notesT_len]; exact Nat.le_refl _)] at this
  exact this
/-- A write's key has a last write, and it is this one just if no later one writes the key. -/
theorem last_fin (l : List MTxn) (t : Nat) (ht : t < l.length) (i : Nat) (hi : i < (l.getD t default).ops.length) (hw : isW ((l.getD t default).ops.getD i default).kind = true) : (((lastN (notes l l.length) t ((l.getD t default).ops.getD i default).key).getD 0 : Nat) = i) ↔ finT (l.getD t default).ops i := by
  generalize hT : (l.getD t default).ops = T at *
  constructor
  · intro h
    refine ⟨hi, hw, ?_⟩
    cases hl : lastN (notes l l.length) t (T.getD i default).key with
    | some m =>
      rw [hl] at h
      have hm : m = i := h
      have h2 := (lastN_is l t ht (T.getD i default).key m).1 hl
      rw [hT, hm] at h2
      exact h2.2.2.2
    | none =>
      exfalso
      have hex : ∃ m, lastN (notes l l.length) t (T.getD i default).key = some m := by
        rw [last_notes l t _ l.length ht, hT]
        unfold lastN
        have hmem : (t, i, T.getD i default) ∈ (notesT t T).filter (hitL t (T.getD i default).key) := List.mem_filter.2 ⟨List.mem_map.2 ⟨i, by simpa using hi, rfl⟩, by simp only [hitL, Bool.and_eq_true, decide_eq_true_eq]; exact ⟨⟨hw, trivial⟩, trivial⟩⟩
        cases hg : ((notesT t T).filter (hitL t (T.getD i default).key)).getLast? with
        | none =>
          rw [List.getLast?_eq_none_iff] at hg
          rw [hg] at hmem
          simp at hmem
        | some y => exact ⟨_, rfl⟩
      obtain ⟨m, hm⟩ := hex
      rw [hl] at hm
      cases hm
  · intro h
    have := (lastN_is l t ht (T.getD i default).key i).2 (by rw [hT]; exact ⟨hi, hw, rfl, h.2.2⟩)
    rw [this]
    rfl
end Go.Proofs.Ytnfbcmnlloipiaa
namespace Go.Proofs.Ytnfbcmnlloipiaa
set_option linter.unusedVariables false
set_option linter.unusedSimpArgs false
open Go.RowKit Go.Lib Go.Maps
open Tx (MTxn)

/-- A read of the list s that counts. -/
def isRd (s : ByteArray) (st : Int) (o : MOp) : Bool := decide (o.key = s) && (o.kind == 2) && o.has && (st == 1)
def rdB (l : List MTxn) (s : ByteArray) (x : MN) : Bool := isRd s (l.getD x.1 default).state x.2.2
def rdsN (l : List MTxn) (s : ByteArray) (N : List MN) : List MRx := (N.filter (rdB l s)).map fun x => (x.1, x.2.1, x.2.2.list)
theorem rds_snoc (l : List MTxn) (s : ByteArray) (N : List MN) (x : MN) : rdsN l s (N ++ [x]) = rdsN l s N ++ (if isRd s (l.getD x.1 default).state x.2.2 then [(x.1, x.2.1, x.2.2.list)] else []) := by
  unfold rdsN
  rw [List.filter_append, List.map_append]
  congr 1
  by_cases h : rdB l s x = true
  · rw [List.filter_cons_of_pos h]
    unfold rdB at h
    rw [if_pos h]
    rfl
  · rw [List.filter_cons_of_neg h]
    unfold rdB at h
    rw [if_neg h]
    rfl
theorem rds_len (l : List MTxn) (s : ByteArray) (N : List MN) : (rdsN l s N).length ≤ N.length := by
  unfold rdsN
  rw [List.length_map]
  exact List.length_filter_le _ _
theorem rds_mem {l : List MTxn} {s : ByteArray} {N : List MN} {r : MRx} (h : r ∈ rdsN l s N) : ∃ x ∈ N, r = (x.1, x.2.1, x.2.2.list) := by
  unfold rdsN at h
  obtain ⟨x, hx, rfl⟩ := List.mem_map.1 h
  exact ⟨x, (List.mem_filter.1 hx).1, rfl⟩
/-- A write, and what became of it. -/
def failB (st : Int) : Bool := (st != 1) && (st != 3)
def finB (T : List MOp) (i : Nat) : Bool := decide (i < T.length) && (isW (T.getD i default).kind && (List.range T.length).all fun j => decide (j ≤ i) || !(isW (T.getD j default).kind && decide ((T.getD j default).key = (T.getD i default).key)))
theorem finB_is (T : List MOp) (i : Nat) : finB T i = true ↔ finT T i := by
  unfold finB finT
  rw [Bool.and_eq_true, Bool.and_eq_true, decide_eq_true_eq, List.all_eq_true]
  refine and_congr_right fun h1 => and_congr_right fun h2 => ⟨fun h j hj hl c => ?_, fun h j hj => ?_⟩
  · have := h j (List.mem_range.2 hl)
    rw [c.1, c.2, Bool.or_eq_true, decide_eq_true_eq] at this
    rcases this with h3 | h3
    · omega
    · rw [decide_eq_true rfl] at h3
      exact absurd h3 (by decide)
  · by_cases hji : j ≤ i
    · simp [hji]
    · have := h j (by omega) (List.mem_range.1 hj)
      simp only [Bool.or_eq_true, decide_eq_true_eq, Bool.not_eq_true', Bool.and_eq_false_iff, decide_eq_false_iff_not]
      refine .inr ?_
      by_cases hw : isW (T.getD j default).kind = true
      · exact .inr fun c => this ⟨hw, c⟩
      · exact .inl (by simpa using hw)
def srcOf (l : List MTxn) (x : MN) : MSrc := (x.1, x.2.1, failB (l.getD x.1 default).state, finB (l.getD x.1 default).ops x.2.1)
def srcN (l : List MTxn) (s : ByteArray) (N : List MN) (v : Int) : Option MSrc := ((N.filter (hitW s v)).getLast?).map (srcOf l)
theorem src_snoc (l : List MTxn) (s : ByteArray) (N : List MN) (x : MN) (v : Int) : srcN l s (N ++ [x]) v = if hitW s v x then some (srcOf l x) else srcN l s N v := by
  unfold srcN
  by_cases h : hitW s v x = true <;> simp [h]
theorem src_mem {l : List MTxn} {s : ByteArray} {N : List MN} {v : Int} {y : MSrc} (h : srcN l s N v = some y) : ∃ x ∈ N, hitW s v x = true ∧ y = srcOf l x := by
  unfold srcN at h
  obtain ⟨x, hx, rfl⟩ := Option.map_eq_some_iff.1 h
  have := List.mem_filter.1 (List.mem_of_getLast? hx)
  exact ⟨x, this.1, this.2, rfl⟩
/-- The first of the longest. -/
def longS (t r : MRx) : MRx := if t.2.2.length < r.2.2.length then r else t
def longR (R : List MRx) : MRx := R.foldl longS (0, 0, [])
theorem long_snoc (R : List MRx) (r : MRx) : longR (R ++ [r]) = longS (longR R) r := by
  unfold longR
  rw [List.foldl_append]
  rfl
theorem long_ge (R : List MRx) : ∀ t, t.2.2.length ≤ (R.foldl longS t).2.2.length ∧ ∀ r ∈ R, r.2.2.length ≤ (R.foldl longS t).2.2.length := by
  induction R with
  | nil => intro t; exact ⟨Nat.le_refl _, fun r hr => by simp at hr⟩
  | cons a R ih =>
    intro t
    rw [List.foldl_cons]
    obtain ⟨h1, h2⟩ := ih (longS t a)
    have h3 : t.2.2.length ≤ (longS t a).2.2.length ∧ a.2.2.length ≤ (longS t a).2.2.length := by
      unfold longS
      split <;> omega
    refine ⟨by omega, fun r hr => ?_⟩
    rcases List.mem_cons.1 hr with rfl | hr
    · omega
    · exact h2 r hr
theorem long_max {R : List MRx} {r : MRx} (h : r ∈ R) : r.2.2.length ≤ (longR R).2.2.length := (long_ge R _).2 r h
theorem long_mem (R : List MRx) : ∀ t, R.foldl longS t = t ∨ R.foldl longS t ∈ R := by
  induction R with
  | nil => intro t; exact .inl rfl
  | cons a R ih =>
    intro t
    rw [List.foldl_cons]
    rcases ih (longS t a) with h | h
    · rw [h]
      unfold longS
      split
      · exact .inr (by simp)
      · exact .inl rfl
    · exact .inr (List.mem_cons_of_mem _ h)
theorem long_in (R : List MRx) : longR R = (0, 0, []) ∨ longR R ∈ R := long_mem R _
/-- What a look knows. -/
def knwN (l : List MTxn) (s : ByteArray) (N : List MN) : Knw := ⟨srcN l s N, (longR (rdsN l s N)).1, (longR (rdsN l s N)).2.2⟩
end Go.Proofs.Ytnfbcmnlloipiaa
namespace Go.Proofs.Ytnfbcmnlloipiaa
set_option linter.unusedVariables false
set_option linter.unusedSimpArgs false
open Go.RowKit Go.Lib Go.Maps
open Tx (MTxn)

/-- The reads of a look, with their lists in the blocks of D. -/
structure RdsD (D : Nat → Prop) (w : World) (R : List MRd) (RX : List MRx) : Prop where
  len : R.length = RX.length
  at' : ∀ j, j < R.length → ∃ a c, R.getD j default = ((RX.getD j default).1, (RX.getD j default).2.1, a, (RX.getD j default).2.2.length, c) ∧ IntsIn D w (.slice a (RX.getD j default).2.2.length c) (RX.getD j default).2.2 ∧ ∀ x ∈ (RX.getD j default).2.2, (Lit.int .i64 x).wf = true
theorem RdsD.rds {D : Nat → Prop} {w : World} {R : List MRd} {RX : List MRx} (h : RdsD D w R RX) : Rds w R RX := ⟨h.len, fun j hj => by
  obtain ⟨a, c, h1, h2, h3⟩ := h.at' j hj
  exact ⟨a, c, h1, h2.keep (fun _ _ _ => rfl) (fun _ _ _ => trivial), h3⟩⟩
theorem RdsD.keep {D T : Nat → Prop} {w w' : World} {R : List MRd} {RX : List MRx} (h : RdsD D w R RX) (hk : KeepsIn D w w') (hT : ∀ b, b < w.heap.size → D b → T b) : RdsD T w' R RX := ⟨h.len, fun j hj => by
  obtain ⟨a, c, h1, h2, h3⟩ := h.at' j hj
  exact ⟨a, c, h1, h2.keep hk hT, h3⟩⟩
theorem RdsD.snoc {D : Nat → Prop} {w : World} {R : List MRd} {RX : List MRx} (h : RdsD D w R RX) (ri rj : Nat) (la : Option Addr) (lc : Nat) (xs : List Int) (hx : IntsIn D w (.slice la xs.length lc) xs) (hw : ∀ x ∈ xs, (Lit.int .i64 x).wf = true) : RdsD D w (R ++ [(ri, rj, la, xs.length, lc)]) (RX ++ [(ri, rj, xs)]) := by
  refine ⟨by simp [h.len], fun j hj => ?_⟩
  by_cases hl : j < R.length
  · obtain ⟨a, c, h1, h2, h3⟩ := h.at' j hl
    have e1 : (R ++ [(ri, rj, la, xs.length, lc)]).getD j default = R.getD j default := by simp [List.getD, List.getElem?_append_left hl]
    have e2 : (RX ++ [(ri, rj, xs)]).getD j default = RX.getD j default := by simp [List.getD, List.getElem?_append_left (show j < RX.length from h.len ▸ hl)]
    rw [e1, e2]
    exact ⟨a, c, h1, h2, h3⟩
  · have hj' : j = R.length := by
      have : j < R.length + 1 := by simpa using hj
      omega
    subst hj'
    have e1 : (R ++ [(ri, rj, la, xs.length, lc)]).getD R.length default = (ri, rj, la, xs.length, lc) := by simp [List.getD]
    have e2 : (RX ++ [(ri, rj, xs)]).getD R.length default = (ri, rj, xs) := by rw [h.len]; simp [List.getD]
    rw [e1, e2]
    exact ⟨la, lc, rfl, hx, hw⟩
abbrev zeroLk : Array Value := #[.string ⟨#[]⟩, .slice none 0 0, .int .i64 0, .int .i64 0, .slice none 0 0, .map none]
/-- The look, in its place, with what it holds of M. -/
structure Lkg (l : List MTxn) (s : ByteArray) (w : World) (D : Nat → Prop) (M : List MN) (wr : World) (R : List MRd) (t2 : Nat) (ta : Option Addr) (tc n : Nat) (rv : Value) : Prop where
  lg : Lg (w.heap.size + 3) wr (w.heap.size + 2) s rv R ((knwN l s M).ti, t2, ta, (knwN l s M).ts.length, tc) (w.heap.size + 1)
  rd : RdsD D wr R (rdsN l s M)
  tr : IntsIn D wr (.slice ta (knwN l s M).ts.length tc) (knwN l s M).ts
  sc : Sc wr (w.heap.size + 1) n (srcN l s M)
  nl : n ≤ M.length
  lo : ∀ b, D b → w.heap.size + 3 ≤ b ∧ b < wr.heap.size
  ap : ∀ g, rv.ownBlock = some g → ¬ D g
  zb : wr.heap[w.heap.size]? = some (.cells zeroLk 80)
  bl : Below w.heap.size w wr
def LkE (l : List MTxn) (s : ByteArray) (w : World) (D : Nat → Prop) (M : List MN) (wr : World) : Prop := ∃ R t2 ta tc n rv, Lkg l s w D M wr R t2 ta tc n rv
section
variable {l : List MTxn} {s : ByteArray} {w : World} {D : Nat → Prop} {M : List MN} {wr : World}
theorem LkE.big (h : LkE l s w D M wr) : w.heap.size + 3 ≤ wr.heap.size := by
  obtain ⟨R, t2, ta, tc, n, rv, h⟩ := h
  exact blt h.lg.box
theorem LkE.below (h : LkE l s w D M wr) : Below w.heap.size w wr := by
  obtain ⟨R, t2, ta, tc, n, rv, h⟩ := h
  exact h.bl
/-- Nothing of the look is changed, and some blocks are new. -/
theorem LkE.txn (h : LkE l s w D M wr) {w' : World} (hb : Below wr.heap.size wr w') : LkE l s w (fun b => D b ∨ (wr.heap.size ≤ b ∧ b < w'.heap.size)) M w' := by
  have hbig := h.big
  obtain ⟨R, t2, ta, tc, n, rv, h⟩ := h
  have hs := hb.size
  have keep : KeepsIn D wr w' := fun b hD hl => hb.block b hl
  refine ⟨R, t2, ta, tc, n, rv, h.lg.same (hb.block _ (by omega)) (fun g hg => hb.block g (own_block h.lg.own hg).2.1), h.rd.keep keep (fun b _ hD => .inl hD), h.tr.keep keep (fun b _ hD => .inl hD), h.sc.same (hb.block _ (by omega)), h.nl, fun b hD => ?_, fun g hg c => ?_, (hb.block _ (by omega)).trans h.zb, h.bl.trans (hb.mono (by omega))⟩
  · rcases hD with hD | ⟨h1, h2⟩
    · have := h.lo b hD
      exact ⟨this.1, by omega⟩
    · exact ⟨by omega, h2⟩
  · rcases c with c | ⟨h1, _⟩
    · exact h.ap g hg c
    · have := (own_block h.lg.own hg).2.1
      omega
theorem LkE.later (h : LkE l s w D M wr) {w' : World} (hb : Below wr.heap.size wr w') : LkE l s w D M w' := by
  have hbig := h.big
  obtain ⟨R, t2, ta, tc, n, rv, h⟩ := h
  have hs := hb.size
  have keep : KeepsIn D wr w' := fun b hD hl => hb.block b hl
  exact ⟨R, t2, ta, tc, n, rv, h.lg.same (hb.block _ (by omega)) (fun g hg => hb.block g (own_block h.lg.own hg).2.1), h.rd.keep keep (fun b _ hD => hD), h.tr.keep keep (fun b _ hD => hD), h.sc.same (hb.block _ (by omega)), h.nl, fun b hD => ⟨(h.lo b hD).1, by have := (h.lo b hD).2; omega⟩, h.ap, (hb.block _ (by omega)).trans h.zb, h.bl.trans (hb.mono (by omega))⟩
theorem knw_snoc (l : List MTxn) (s : ByteArray) (M : List MN) (x : MN) (hr : isRd s (l.getD x.1 default).state x.2.2 = false) (hw : ∀ v, hitW s v x = false) : knwN l s (M ++ [x]) = knwN l s M := by
  have e1 : rdsN l s (M ++ [x]) = rdsN l s M := by rw [rds_snoc, hr]; simp
  have e2 : srcN l s (M ++ [x]) = srcN l s M := funext fun v => by rw [src_snoc, hw]; simp
  unfold knwN
  rw [e1, e2]
theorem LkE.skip (h : LkE l s w D M wr) (x : MN) (hr : isRd s (l.getD x.1 default).state x.2.2 = false) (hw : ∀ v, hitW s v x = false) : LkE l s w D (M ++ [x]) wr := by
  have ek := knw_snoc l s M x hr hw
  have e1 : rdsN l s (M ++ [x]) = rdsN l s M := by rw [rds_snoc, hr]; simp
  have e2 : srcN l s (M ++ [x]) = srcN l s M := funext fun v => by rw [src_snoc, hw]; simp
  obtain ⟨R, t2, ta, tc, n, rv, h⟩ := h
  exact ⟨R, t2, ta, tc, n, rv, by rw [ek]; exact h.lg, by rw [e1]; exact h.rd, by rw [ek]; exact h.tr, by rw [e2]; exact h.sc, by have := h.nl; simp; omega, h.lo, h.ap, h.zb, h.bl⟩
/-- A write is put into the sources. -/
theorem LkE.put (h : LkE l s w D M wr) (x : MN) (hM : M.length ≤ 100000) (hk : isW x.2.2.kind = true) (hs : x.2.2.key = s) (hv : (Lit.int .i64 x.2.2.value).wf = true) : ∃ w', (Instr.mapUpdate 78 (.map (some (w.heap.size + 1))) (.int .i64 x.2.2.value) (.agg #[.int .i64 x.1, .int .i64 x.2.1, .bool (failB (l.getD x.1 default).state), .bool (finB (l.getD x.1 default).ops x.2.1)])).run Try.prog wr = .ok () w' ∧ LkE l s w D (M ++ [x]) w' ∧ wr.grownBy w' (some (w.heap.size + 1)) := by
  have hbig := h.big
  obtain ⟨R, t2, ta, tc, n, rv, h⟩ := h
  obtain ⟨w', hrun, hsc, hg⟩ := h.sc.put (by unfold maxLen; have := h.nl; omega) x.2.2.value hv (srcOf l x)
  have hr : isRd s (l.getD x.1 default).state x.2.2 = false := by
    have : (x.2.2.kind == 2) = false := by
      cases hc : x.2.2.kind == 2 with
      | false => rfl
      | true =>
        have : x.2.2.kind = 2 := by simpa using hc
        rw [this] at hk
        exact absurd hk (by decide)
    simp [isRd, this]
  have e1 : rdsN l s (M ++ [x]) = rdsN l s M := by rw [rds_snoc, hr]; simp
  have e2 : srcN l s (M ++ [x]) = fun z => if z = x.2.2.value then some (srcOf l x) else srcN l s M z := funext fun v => by
    rw [src_snoc]
    by_cases hc : v = x.2.2.value
    · simp [hitW, hk, hs, hc]
    · have hc' : ¬ x.2.2.value = v := fun e => hc e.symm
      simp [hitW, hk, hs, hc, hc']
  have ek1 : (knwN l s (M ++ [x])).ti = (knwN l s M).ti := by unfold knwN; rw [e1]
  have ek2 : (knwN l s (M ++ [x])).ts = (knwN l s M).ts := by unfold knwN; rw [e1]
  have same : ∀ b, b < wr.heap.size → b ≠ w.heap.size + 1 → w'.heap[b]? = wr.heap[b]? := fun b hb hn => hg.block b hb (fun e => hn (by injection e))
  have keep : KeepsIn D wr w' := fun b hD hl => same b hl (by have := (h.lo b hD).1; omega)
  refine ⟨w', hrun, ⟨R, t2, ta, tc, n + 1, rv, ?_, by rw [e1]; exact h.rd.keep keep (fun b _ hD => hD), by rw [ek2]; exact h.tr.keep keep (fun b _ hD => hD), by rw [e2]; exact hsc, by have := h.nl; simp; omega, fun b hD => ⟨(h.lo b hD).1, by have := (h.lo b hD).2; have := hg.size; omega⟩, h.ap, (same _ (by omega) (by omega)).trans h.zb, ?_⟩, hg⟩
  · rw [ek1, ek2]
    exact h.lg.same (same _ (by omega) (by omega)) (fun g hg' => same g (own_block h.lg.own hg').2.1 (by have := (own_block h.lg.own hg').1; omega))
  · exact h.bl.trans ⟨hg.os, hg.tape, hg.output, hg.size, fun b hb => same b (by have := h.bl.size; omega) (by omega)⟩
/-- A read is noted. -/
theorem LkE.note (h : LkE l s w D M wr) (x : MN) (hM : M.length ≤ 100000) (hr : isRd s (l.getD x.1 default).state x.2.2 = true) (la : Option Addr) (lc : Nat) (hx : IntsIn D wr (.slice la x.2.2.list.length lc) x.2.2.list) (hw : ∀ y ∈ x.2.2.list, (Lit.int .i64 y).wf = true) : Calls Try.prog 69 #[.pointer (some ⟨w.heap.size + 2, 0, none⟩), .agg #[.int .i64 x.1, .int .i64 x.2.1, .slice la x.2.2.list.length lc]] wr fun e w' => e = .returned (.tuple #[]) ∧ LkE l s w D (M ++ [x]) w' ∧ KeepsIn D wr w' := by
  have hbig := h.big
  obtain ⟨R, t2, ta, tc, n, rv, h⟩ := h
  have e1 : rdsN l s (M ++ [x]) = rdsN l s M ++ [(x.1, x.2.1, x.2.2.list)] := by rw [rds_snoc, hr]; simp
  have hk2 : x.2.2.kind = 2 := by
    simp only [isRd, Bool.and_eq_true, beq_iff_eq, decide_eq_true_eq] at hr
    exact hr.1.1.2
  have e2 : srcN l s (M ++ [x]) = srcN l s M := funext fun v => by
    rw [src_snoc]
    have : isW x.2.2.kind = false := by rw [hk2]; decide
    simp [hitW, this]
  have hRl : R.length ≤ 100000 := by
    rw [h.rd.len]
    exact Nat.le_trans (rds_len l s M) hM
  have fin : ∀ (w' : World) (rv' : Value) (t' : Nat × Nat × Option Addr × Nat), Lg (w.heap.size + 3) w' (w.heap.size + 2) s rv' (R ++ [(x.1, x.2.1, la, x.2.2.list.length, lc)]) ((knwN l s (M ++ [x])).ti, t'.2.1, t'.2.2.1, (knwN l s (M ++ [x])).ts.length, t'.2.2.2) (w.heap.size + 1) → IntsIn D wr (.slice t'.2.2.1 (knwN l s (M ++ [x])).ts.length t'.2.2.2) (knwN l s (M ++ [x])).ts → Gro (fun b => b = w.heap.size + 2 ∨ rv.ownBlock = some b) wr w' → (∀ g, rv'.ownBlock = some g → rv.ownBlock = some g ∨ wr.heap.size ≤ g) → LkE l s w D (M ++ [x]) w' ∧ KeepsIn D wr w' := by
    intro w' rv' t' hlg htr hG hrv
    have keep : KeepsIn D wr w' := fun b hD hl => hG.block b hl (fun c => by
      rcases c with c | c
      · have := (h.lo b hD).1
        omega
      · exact h.ap b c hD)
    have hown : ∀ g, rv.ownBlock = some g → w.heap.size + 3 ≤ g := fun g hg => (own_block h.lg.own hg).1
    refine ⟨⟨_, t'.2.1, t'.2.2.1, t'.2.2.2, n, rv', hlg, ?_, htr.keep keep (fun b _ hD => hD), ?_, by have := h.nl; simp; omega, fun b hD => ⟨(h.lo b hD).1, by have := (h.lo b hD).2; have := hG.size; omega⟩, fun g hg c => ?_, (hG.block _ (by omega) (fun c => ?_)).trans h.zb, ?_⟩, keep⟩
    · rw [e1]
      exact (h.rd.keep keep (fun b _ hD => hD)).snoc _ _ la lc _ (hx.keep keep (fun b _ hD => hD)) hw
    · rw [e2]
      refine h.sc.same (hG.block _ (by omega) (fun c => ?_))
      rcases c with c | c
      · omega
      · have := hown _ c
        omega
    · rcases hrv g hg with h1 | h1
      · exact h.ap g h1 c
      · have := (h.lo g c).2
        omega
    · rcases c with c | c
      · omega
      · have := hown _ c
        omega
    · refine h.bl.trans (hG.below h.bl.size (fun i hi c => ?_))
      rcases c with c | c
      · omega
      · have := hown _ c
        omega
  have ek : longR (rdsN l s (M ++ [x])) = longS (longR (rdsN l s M)) (x.1, x.2.1, x.2.2.list) := by rw [e1, long_snoc]
  by_cases hm : (knwN l s M).ts.length < x.2.2.list.length
  · have ek : longR (rdsN l s (M ++ [x])) = (x.1, x.2.1, x.2.2.list) := ek.trans (if_pos hm)
    have k1 : (knwN l s (M ++ [x])).ti = x.1 := by
      show (longR (rdsN l s (M ++ [x]))).1 = _
      rw [ek]
    have k2 : (knwN l s (M ++ [x])).ts = x.2.2.list := by
      show (longR (rdsN l s (M ++ [x]))).2.2 = _
      rw [ek]
    refine (note_long (w.heap.size + 3) (w.heap.size + 2) (w.heap.size + 1) s rv R _ t2 ta _ tc x.1 x.2.1 la _ lc wr h.lg hRl (by omega) hm).mono ?_
    rintro e w' ⟨rfl, rv', hlg, hG, hrv⟩
    exact ⟨rfl, fin w' rv' (0, x.2.1, la, lc) (by rw [k1, k2]; exact hlg) (by rw [k2]; exact hx) hG hrv⟩
  · have ek : longR (rdsN l s (M ++ [x])) = longR (rdsN l s M) := ek.trans (if_neg hm)
    have k1 : (knwN l s (M ++ [x])).ti = (knwN l s M).ti := by
      show (longR (rdsN l s (M ++ [x]))).1 = _
      rw [ek]
      rfl
    have k2 : (knwN l s (M ++ [x])).ts = (knwN l s M).ts := by
      show (longR (rdsN l s (M ++ [x]))).2.2 = _
      rw [ek]
      rfl
    refine (note_short (w.heap.size + 3) (w.heap.size + 2) (w.heap.size + 1) s rv R _ t2 ta _ tc x.1 x.2.1 la _ lc wr h.lg hRl (by omega) hm).mono ?_
    rintro e w' ⟨rfl, rv', hlg, hG, hrv⟩
    exact ⟨rfl, fin w' rv' (0, t2, ta, tc) (by rw [k1, k2]; exact hlg) (by rw [k2]; exact h.tr) hG hrv⟩
end
end Go.Proofs.Ytnfbcmnlloipiaa
namespace Go.Proofs.Ytnfbcmnlloipiaa
set_option linter.unusedVariables false
set_option linter.unusedSimpArgs false
open Go.RowKit Go.Lib Go.Maps Go.Sort
open Tx (MTxn info_parts flatten_len flatten_get RowsIn.cells RowCells TxnRow TxnsIn TxnsOwn setCell_self cloneInts_any OpsOwn smallL cutTxn cutOp)

/-- What Final answers. -/
def FPost (l : List MTxn) (t i : Int) (w : World) (e : Ending) (w' : World) : Prop := ∃ f : Bool, e = .returned (.bool f) ∧ (f = true ↔ finL l t i) ∧ Below w.heap.size w w'
theorem below_drewN2 {B : Nat} {w W : World} (h : Below B w W) (q r : Nat) : Below B w ((W.drewN q).drewN r) := ⟨h.os, h.tape, h.output, h.size, h.block⟩
set_option maxHeartbeats 8000000 in
set_option maxRecDepth 100000 in
theorem tfinal_is (B : Nat) (w : World) (tb : Nat) (l : List MTxn) (h : Made B w tb l) (t i : Int) (hl : l.length ≤ 1000) (hten : ∀ t ∈ l, t.ops.length ≤ 10) (hok : ∀ t ∈ l, ∀ o ∈ t.ops, OpOk o) :
    Calls Try.prog 68 #[.pointer (some ⟨tb, 0, none⟩), .agg #[.int .i64 t, .int .i64 i]] w fun e w' => FPost l t i w e w' := by
  obtain ⟨W, hW⟩ : ∃ W, w.alloc (.cells #[.int .i64 t, .int .i64 i] 54) = W := ⟨_, rfl⟩
  have BW : Hid (Below w.heap.size w W) := by rw [← hW]; exact below_box w _
  have M : Hid (Made B W tb l) := h.later BW.out
  obtain ⟨xb, hxb⟩ : ∃ xb, w.heap.size = xb := ⟨_, rfl⟩
  have p0 : W.cell? ⟨xb, 0, none⟩ = some (.int .i64 t) := by rw [← hW, ← hxb]; simp
  have p1 : W.cell? ⟨xb, 1, none⟩ = some (.int .i64 i) := by rw [← hW, ← hxb]; simp
  have HW := hid hW
  have HXB := hid hxb
  have HTEN := hid hten
  have HOK := hid hok
  have hli : (l.length : Int) ≤ 1000 := by omega
  have CO : Hid (∀ q, Calls Try.prog 21 #[.pointer (some ⟨tb, 0, none⟩)] (W.drewN q) fun e w' => e = .returned (.int .i64 (l.length : Int)) ∧ (W.drewN q) = w') := fun q => count_is B (W.drewN q) tb l (M.out.later ⟨rfl, rfl, rfl, Nat.le_refl _, fun _ _ => rfl⟩)
  have QC : Hid (∀ q, Calls Try.prog 21 #[.pointer (some ⟨tb, 0, none⟩)] (W.drewN q) fun e w'' => e = .returned (.int .i64 (l.length : Int)) ∧ ∃ m, w'' = W.drewN m) := fun q => (CO.out q).mono (fun e w' ⟨h1, h2⟩ => ⟨h1, q, h2.symm⟩)
  have WR := hid (fun k W => writes_is k W)
  have BQ : ∀ q, Hid (Below w.heap.size w (W.drewN q)) := fun q => ⟨BW.out.os, BW.out.tape, BW.out.output, BW.out.size, BW.out.block⟩
  clear hW hxb h hten hok
  go_enter Try.func68, Try.ntmps68
  go_upto_region 1 with fail
  rw [show w.alloc (.cells #[.int .i64 t, .int .i64 i] 54) = W from HW.out, show w.heap.size = xb from HXB.out]
  by_cases ht0 : t < 0
  · have HF : Hid (¬ finL l t i) := fun c => by have := c.1; omega
    go_region
    go_wp2_with fail
    go_ret
    exact ⟨false, rfl, ⟨fun c => absurd c (by decide), fun c => absurd c HF.out⟩, (by first | exact (BQ _).out | exact below_drewN2 BW.out _ _)⟩
  · have ht1 : 0 ≤ t := by omega
    by_cases htl : t < l.length
    · have htg : ¬ ((l.length : Int) ≤ t) := by omega
      have htd : decide ((l.length : Int) ≤ t) = false := by simpa using htg
      obtain ⟨tn, htn⟩ : ∃ tn : Nat, t = tn := ⟨t.toNat, by omega⟩
      subst htn
      have htl2 : tn < l.length := by omega
      obtain ⟨kb, wb, lb, tv, kv, F, D, m, u, h1, _, _, _, _, h6, _⟩ := id M.out
      obtain ⟨c0, _, _, _, c4, _⟩ := h1.c
      obtain ⟨ao, cc, rfl, hbytes, hrow⟩ := RowsIn.cells h6 (by omega)
      obtain ⟨b, o, cs, rfl, hbl, _, ⟨ov, hcs, hops⟩, hcell⟩ := hrow tn htl2
      subst hcs
      have d4 := hcell 4 _ rfl
      obtain ⟨oa, oc, hov, hol, hoc⟩ := id hops
      subst hov
      have hmem : l.getD tn default ∈ l := getD_mem l tn htl2
      have hlt := h1.lt
      have HLT := hid hlt
      have hT10 : (l.getD tn default).ops.length ≤ 10 := HTEN.out _ hmem
      have HOT := hid (HOK.out _ hmem)
      have LF := hid (last_fin l tn htl2)
      have FD : Hid (finL l (tn : Int) i ↔ (0 ≤ i ∧ finT (l.getD tn default).ops i.toNat)) := ⟨fun c => ⟨c.2.2.1, c.2.2.2⟩, fun c => ⟨by omega, htl, c.1, c.2⟩⟩
      have HOC := hid hoc
      clear h1 h6 hbytes hrow hcell hops hoc hmem hlt
      generalize (l.getD tn default).ops = T at *
      have hTi : (T.length : Int) ≤ 10 := by omega
      go_quiet ((go_at_call 21; exact QC.out _))
      go_upto_region 3 with fail
      go_quiet (fail)
      by_cases hi0 : i < 0
      · have HF : Hid (¬ finL l (tn : Int) i) := fun c => by have := (FD.out.1 c).1; omega
        go_wp2_with fail
        go_ret
        exact ⟨false, rfl, ⟨fun c => absurd c (by decide), fun c => absurd c HF.out⟩, (by first | exact (BQ _).out | exact below_drewN2 BW.out _ _)⟩
      · have hi1 : 0 ≤ i := by omega
        by_cases hil : i < T.length
        · obtain ⟨n, hn⟩ : ∃ n : Nat, i = n := ⟨i.toNat, by omega⟩
          subst hn
          have hnl : n < T.length := by omega
          have hig : ¬ ((T.length : Int) ≤ n) := by omega
          have hid' : decide ((T.length : Int) ≤ n) = false := by simpa using hig
          obtain ⟨ob, oo, rfl, _, hcs⟩ := HOC.out (by omega)
          obtain ⟨cs, _, ⟨lv, hcse, _⟩, hcell⟩ := hcs n hnl
          subst hcse
          have x0 := hcell 0 _ rfl
          have x1 := hcell 1 _ rfl
          rw [Nat.add_zero] at x0
          have hkey : (T.getD n default).key.size ≤ maxLen := Nat.le_trans (HOT.out _ (getD_mem T n hnl)).1 (by decide)
          have LF2 := hid (fun hw => LF.out n hnl hw)
          have FD2 : Hid (finL l (tn : Int) (n : Int) ↔ finT T n) := FD.out.trans ⟨fun c => c.2, fun c => ⟨by omega, c⟩⟩
          have WR2 := hid (fun W => writes_is (T.getD n default).kind W)
          have LK : ∀ q, (Instr.lookup 62 (.map (some lb)) (parV tn (T.getD n default).key) false).run Try.prog (W.drewN q) = .ok (.int .i64 (((lastN (notes l l.length) tn (T.getD n default).key).getD 0 : Nat) : Int)) (W.drewN q) := fun q => (show Lt (W.drewN q) lb m (notes l l.length) from HLT.out.same rfl).look tn (T.getD n default).key hkey (by omega)
          clear hcs hcell hkey
          have HX : Hid (finT T n → isW (T.getD n default).kind = true) := fun c => c.2.1
          generalize ((lastN (notes l l.length) tn (T.getD n default).key).getD 0) = LL at *
          generalize (T.getD n default).kind = ok at *
          generalize (T.getD n default).key = os at *
          cases hw : isW ok with
          | false =>
            rw [hw] at WR2
            have HF : Hid (¬ finL l (tn : Int) (n : Int)) := fun c => by have := HX.out (FD2.out.1 c); rw [hw] at this; cases this
            clear hw LF2
            go_wp2_with (go_at_call 58; refine (WR2.out _).mono ?_; rintro e w' ⟨rfl, rfl⟩)
            go_ret
            exact ⟨false, rfl, ⟨fun c => absurd c (by decide), fun c => absurd c HF.out⟩, (by first | exact (BQ _).out | exact below_drewN2 BW.out _ _)⟩
          | true =>
            rw [hw] at WR2
            have L3 := hid (LF2.out hw)
            clear hw LF2
            unfold parV at LK
            go_wp2_with (go_at_call 58; refine (WR2.out _).mono ?_; rintro e w' ⟨rfl, rfl⟩)
            go_upto_region 6 with fail
            by_cases hLL : LL = n
            · have hle : ((LL : Int) == (n : Int)) = true := by simp [hLL]
              have HF : Hid (finL l (tn : Int) (n : Int)) := FD2.out.2 (L3.out.1 hLL)
              clear hLL
              generalize (LL : Int) = li at *
              go_quiet (fail)
              go_wp2_with fail
              go_ret
              exact ⟨true, rfl, ⟨fun _ => HF.out, fun _ => rfl⟩, (by first | exact (BQ _).out | exact below_drewN2 BW.out _ _)⟩
            · have hle : ((LL : Int) == (n : Int)) = false := by rw [beq_eq_false_iff_ne]; omega
              have HF : Hid (¬ finL l (tn : Int) (n : Int)) := fun c => hLL (L3.out.2 (FD2.out.1 c))
              clear hLL
              generalize (LL : Int) = li at *
              go_quiet (fail)
              go_wp2_with fail
              go_ret
              exact ⟨false, rfl, ⟨fun c => absurd c (by decide), fun c => absurd c HF.out⟩, (by first | exact (BQ _).out | exact below_drewN2 BW.out _ _)⟩
        · have hig : (T.length : Int) ≤ i := by omega
          have hid' : decide ((T.length : Int) ≤ i) = true := by simpa using hig
          have HF : Hid (¬ finL l (tn : Int) i) := fun c => by have := (FD.out.1 c).2.1; omega
          go_wp2_with fail
          go_ret
          exact ⟨false, rfl, ⟨fun c => absurd c (by decide), fun c => absurd c HF.out⟩, (by first | exact (BQ _).out | exact below_drewN2 BW.out _ _)⟩
    · have htg : (l.length : Int) ≤ t := by omega
      have htd : decide ((l.length : Int) ≤ t) = true := by simpa using htg
      have HF : Hid (¬ finL l t i) := fun c => by have := c.2.1; omega
      go_quiet ((go_at_call 21; exact QC.out _))
      go_wp2_with fail
      go_ret
      exact ⟨false, rfl, ⟨fun c => absurd c (by decide), fun c => absurd c HF.out⟩, (by first | exact (BQ _).out | exact below_drewN2 BW.out _ _)⟩
end Go.Proofs.Ytnfbcmnlloipiaa
namespace Go.Proofs.Ytnfbcmnlloipiaa
set_option linter.unusedVariables false
set_option linter.unusedSimpArgs false
open Go.RowKit Go.Lib Go.Maps Go.Sort
open Tx (MTxn info_parts flatten_len flatten_get RowsIn.cells RowCells TxnRow TxnsIn TxnsOwn setCell_self cloneInts_any OpsOwn smallL cutTxn cutOp)

theorem alloc_grow (w : World) (o : Obj) : w.alloc o = grow (w.drewN 0) #[o] := by
  unfold grow World.alloc World.drewN
  simp
theorem write_g (k : Int) (s : ByteArray) (x : Int) (lv : Value) (h n : Bool) (w : World) (r : Bool) (hr : isW k = r) : Calls Try.prog 63 #[.agg #[.int .i64 k, .string s, .int .i64 x, lv, .bool h, .bool n]] w fun e w' => e = .returned (.bool r) ∧ ∃ q os, w' = grow (w.drewN q) os := by
  subst hr
  by_cases h1 : k = 1
  · subst h1
    go_enter Try.func63, Try.ntmps63
    go_wp2_with fail
    go_ret
    exact ⟨rfl, 0, #[_], alloc_grow w _⟩
  · by_cases h2 : k = 3
    · subst h2
      go_enter Try.func63, Try.ntmps63
      go_wp2_with fail
      go_ret
      exact ⟨rfl, 0, #[_], alloc_grow w _⟩
    · have e1 : (k == 1) = false := by simp [h1]
      have e2 : (k == 3) = false := by simp [h2]
      have e : Hid (isW k = false) := by show isW k = false; simp [isW, h1, h2]
      clear h1 h2
      go_enter Try.func63, Try.ntmps63
      go_wp2_with fail
      go_ret
      exact ⟨by rw [e.out]; rfl, 0, #[_], alloc_grow w _⟩
theorem Try.mixed : Try.prog.follows .mixedOrders = true := by kernel_rfl
theorem below_grow (w : World) (n : Nat) (os : Array Obj) : Below w.heap.size w (grow (w.drewN n) os) :=
  ⟨rfl, rfl, rfl, by show w.heap.size ≤ (w.heap ++ os).size; simp, fun k hk => heap_grow_old (w.drewN n) os hk⟩
theorem gcell {w : World} {a : Addr} {v : Value} (h : w.cell? a = some v) (n : Nat) (os : Array Obj) : (grow (w.drewN n) os).cell? a = some v :=
  ((below_grow w n os).cell (p := a) (World.block_lt_of_cell? _ _ h)).trans h
set_option maxHeartbeats 8000000 in
set_option maxRecDepth 100000 in
theorem rfinal_is {S : Nat → Prop} (w : World) (v : Value) (l : List MTxn) (t i : Int) (h : TxnsIn S w v l) (hl : l.length ≤ 1000) (hten : ∀ t ∈ l, t.ops.length ≤ 10) :
    Calls Try.prog 77 #[v, .agg #[.int .i64 t, .int .i64 i]] w fun e w' => FPost l t i w e w' := by
  obtain ⟨a1, c1, rfl, l1, k1⟩ := RowsIn.cells h (by omega)
  obtain ⟨W, hW⟩ : ∃ W, w.alloc (.cells #[.int .i64 t, .int .i64 i] 54) = W := ⟨_, rfl⟩
  have BW : Hid (Below w.heap.size w W) := by rw [← hW]; exact below_box w _
  obtain ⟨xb, hxb⟩ : ∃ xb, w.heap.size = xb := ⟨_, rfl⟩
  have p0 : W.cell? ⟨xb, 0, none⟩ = some (.int .i64 t) := by rw [← hW, ← hxb]; simp
  have p1 : W.cell? ⟨xb, 1, none⟩ = some (.int .i64 i) := by rw [← hW, ← hxb]; simp
  have hxl : xb < W.heap.size := by rw [← hW, ← hxb, alloc_size]; omega
  have HW := hid hW
  have HXB := hid hxb
  have HTEN := hid hten
  have HC := hid k1
  have hli : (l.length : Int) ≤ 1000 := by omega
  have BQ : ∀ q, Hid (Below w.heap.size w (W.drewN q)) := fun q => ⟨BW.out.os, BW.out.tape, BW.out.output, BW.out.size, BW.out.block⟩
  clear hW hxb h hten k1
  go_enter Try.func77, Try.ntmps77
  go_upto_region 1 with fail
  rw [show w.alloc (.cells #[.int .i64 t, .int .i64 i] 54) = W from HW.out, show w.heap.size = xb from HXB.out]
  by_cases ht0 : t < 0
  · have HF : Hid (¬ finL l t i) := fun c => by have := c.1; omega
    go_quiet (fail)
    go_wp2_with fail
    go_ret
    exact ⟨false, rfl, ⟨fun c => absurd c (by decide), fun c => absurd c HF.out⟩, (by first | exact (BQ _).out | exact below_drewN2 BW.out _ _)⟩
  · have ht1 : 0 ≤ t := by omega
    by_cases htl : t < l.length
    · have htg : ¬ ((l.length : Int) ≤ t) := by omega
      have htd : decide ((l.length : Int) ≤ t) = false := by simpa using htg
      obtain ⟨tn, htn⟩ : ∃ tn : Nat, t = tn := ⟨t.toNat, by omega⟩
      subst htn
      have htl2 : tn < l.length := by omega
      obtain ⟨b, o, cs, rfl, hbl, _, ⟨ov, hcs, hops⟩, hcell⟩ := HC.out tn htl2
      subst hcs
      have d4 := (BW.out.cell (p := ⟨b, o + tn * 5 + 4, none⟩) hbl).trans (hcell 4 _ rfl)
      obtain ⟨oa, oc, hov, hol, hoc⟩ := id hops
      subst hov
      have hT10 : (l.getD tn default).ops.length ≤ 10 := HTEN.out _ (getD_mem l tn htl2)
      have FD : Hid (finL l (tn : Int) i ↔ (0 ≤ i ∧ finT (l.getD tn default).ops i.toNat)) := ⟨fun c => ⟨c.2.2.1, c.2.2.2⟩, fun c => ⟨by omega, htl, c.1, c.2⟩⟩
      have HOC := hid hoc
      clear hcell hops hoc
      generalize (l.getD tn default).ops = T at *
      have hTi : (T.length : Int) ≤ 10 := by omega
      by_cases hi0 : i < 0
      · have HF : Hid (¬ finL l (tn : Int) i) := fun c => by have := (FD.out.1 c).1; omega
        go_quiet (fail)
        go_wp2_with fail
        go_ret
        exact ⟨false, rfl, ⟨fun c => absurd c (by decide), fun c => absurd c HF.out⟩, (by first | exact (BQ _).out | exact below_drewN2 BW.out _ _)⟩
      · have hi1 : 0 ≤ i := by omega
        by_cases hil : i < T.length
        · obtain ⟨n, hn⟩ : ∃ n : Nat, i = n := ⟨i.toNat, by omega⟩
          subst hn
          have hnl : n < T.length := by omega
          have hig : ¬ ((T.length : Int) ≤ n) := by omega
          have hid' : decide ((T.length : Int) ≤ n) = false := by simpa using hig
          obtain ⟨ob, oo, rfl, _, hcs⟩ := HOC.out (by omega)
          obtain ⟨cs, _, ⟨lv, hcse, hlv⟩, hcell⟩ := hcs n hnl
          subst hcse
          obtain ⟨la, lc, rfl, _⟩ := id hlv
          have hobl := World.block_lt_of_cell? _ _ (hcell 0 _ rfl)
          have x0 := (BW.out.cell (p := ⟨ob, oo + n * 6 + 0, none⟩) hobl).trans (hcell 0 _ rfl)
          have x1 := (BW.out.cell (p := ⟨ob, oo + n * 6 + 1, none⟩) hobl).trans (hcell 1 _ rfl)
          have x2 := (BW.out.cell (p := ⟨ob, oo + n * 6 + 2, none⟩) hobl).trans (hcell 2 _ rfl)
          have x3 := (BW.out.cell (p := ⟨ob, oo + n * 6 + 3, none⟩) hobl).trans (hcell 3 _ rfl)
          have x4 := (BW.out.cell (p := ⟨ob, oo + n * 6 + 4, none⟩) hobl).trans (hcell 4 _ rfl)
          have x5 := (BW.out.cell (p := ⟨ob, oo + n * 6 + 5, none⟩) hobl).trans (hcell 5 _ rfl)
          rw [Nat.add_zero] at x0
          have FD2 : Hid (finL l (tn : Int) (n : Int) ↔ finT T n) := FD.out.trans ⟨fun c => c.2, fun c => ⟨by omega, c⟩⟩
          have HCS := hid hcs
          have HX : Hid (finT T n → isW (T.getD n default).kind = true) := fun c => c.2.1
          have HFT : Hid (isW (T.getD n default).kind = true → (∀ j, n < j → j < T.length → ¬ (isW (T.getD j default).kind = true ∧ (T.getD j default).key = (T.getD n default).key)) → finT T n) := fun a b => ⟨hnl, a, b⟩
          have HBD : Hid (∀ j, n < j → j < T.length → (isW (T.getD j default).kind = true ∧ (T.getD j default).key = (T.getD n default).key) → ¬ finT T n) := fun j a b c d => d.2.2 j a b c
          clear hcs hcell hlv HOC
          have HTN : Hid (∃ O, T.getD n default = O) := ⟨_, rfl⟩
          generalize T.getD n default = O at x0 x1 x2 x3 x4 x5 HX HFT HBD
          obtain ⟨ok, KY, ovv, ol, oh, on⟩ := O
          simp only [MOp.kind, MOp.key, MOp.value, MOp.list, MOp.has, MOp.nl] at x0 x1 x2 x3 x4 x5 HX HFT HBD
          have RW := hid (fun W => rwrite_is (ok, KY, ovv, ol, oh, on) la lc W)
          simp only [opV, MOp.kind, MOp.key, MOp.value, MOp.list, MOp.has, MOp.nl] at RW
          go_quiet (fail)
          have BV : Hid (Below w.heap.size w (W.drewN nq)) := (BQ nq).out
          have y1 : (W.drewN nq).cell? ⟨ob, oo + n * 6 + 1, none⟩ = some (.string KY) := x1
          have yp : (W.drewN nq).cell? ⟨xb, 1, none⟩ = some (.int .i64 (n : Int)) := p1
          have hobW : ob < (W.drewN nq).heap.size := Nat.lt_of_lt_of_le hobl BW.out.size
          have hxW : xb < (W.drewN nq).heap.size := hxl
          have RWV := hid (RW.out (W.drewN nq))
          cases hw : isW ok with
          | false =>
            rw [hw] at RWV
            have HF : Hid (¬ finL l (tn : Int) (n : Int)) := fun c => by have := HX.out (FD2.out.1 c); rw [hw] at this; cases this
            clear hw
            go_wp2_with (go_at_call 63; refine RWV.out.mono ?_; rintro e w2 ⟨rfl, b2⟩; have B2 : Hid (Below w.heap.size w w2) := BV.out.trans (b2.mono BV.out.size); clear b2)
            go_ret
            exact ⟨false, rfl, ⟨fun c => absurd c (by decide), fun c => absurd c HF.out⟩, B2.out⟩
          | true =>
            rw [hw] at RWV
            have HFT2 := hid (HFT.out hw)
            clear hw HFT HX
            have hn1 : ((n : Int) + 1) ≤ T.length := by omega
            have hn2 : ((n : Int) + 1) ≤ oc := by omega
            go_upto_region 6 with (go_at_call 63; refine RWV.out.mono ?_; rintro e w2 ⟨rfl, b2⟩; have B2 : Hid (Below w.heap.size w w2) := BV.out.trans (b2.mono BV.out.size); have z1 : w2.cell? ⟨ob, oo + n * 6 + 1, none⟩ = some (.string KY) := (b2.cell (p := ⟨ob, oo + n * 6 + 1, none⟩) hobW).trans y1; have zp : w2.cell? ⟨xb, 1, none⟩ = some (.int .i64 (n : Int)) := (b2.cell (p := ⟨xb, 1, none⟩) hxW).trans yp; have hob2 : ob < w2.heap.size := Nat.lt_of_lt_of_le hobW b2.size; have hx2 : xb < w2.heap.size := Nat.lt_of_lt_of_le hxW b2.size; clear b2)
            clear x0 x1 x2 x3 x4 x5 y1 yp hobW hxW p0 p1 d4 RWV BV
            by_cases hcap : oc = n + 1
            · have hTn : T.length = n + 1 := by omega
              have FIN : Hid (finL l (tn : Int) (n : Int)) := FD2.out.2 (HFT2.out (fun j a b => by omega))
              clear FD2 HFT2 HBD
              go_wp2_with fail
              go_loopg [7, 54] 0 (fun gg _ i wr => i = .int .i64 0 ∧ Aside (Below w.heap.size w wr))
              case atStart => exact ⟨rfl, B2.out⟩
              case round =>
                obtain ⟨rfl, BR⟩ := hrel
                have hR0 : T.length - (n + 1) = 0 := by omega
                go_wp2_with fail
                go_ret
                exact ⟨true, rfl, ⟨fun _ => FIN.out, fun _ => rfl⟩, BR.out⟩
            · go_wp2_with fail
              have hRl : T.length - (n + 1) + (n + 1) = T.length := by omega
              generalize T.length - (n + 1) = R at *
              have hRi : (R : Int) ≤ 10 := by omega
              have B20 : Hid (Below w2.heap.size w2 w2) := Below.refl _ _
              go_loopg [7, 54] R (fun gg _ i wr => ∃ j : Nat, j ≤ R ∧ R - j ≤ gg ∧ i = .int .i64 j ∧ Aside (Below w2.heap.size w2 wr) ∧ Aside (∀ m, n < m → m < n + 1 + j → ¬ (isW (T.getD m default).kind = true ∧ (T.getD m default).key = KY)))
              case atStart => exact ⟨0, Nat.zero_le _, by omega, rfl, B20.out, fun m a b => by omega⟩
              case round =>
                clear B20
                obtain ⟨j, hj, hgj, rfl, BJ, NJ⟩ := hrel
                have BJ2 : Hid (Below w.heap.size w wr) := B2.out.trans (BJ.out.mono B2.out.size)
                by_cases hjl : j < R
                · have hjli : (j : Int) < R := by omega
                  obtain ⟨cs, _, ⟨lv2, hcse, hlv2⟩, hcell⟩ := HCS.out (n + 1 + j) (by omega)
                  subst hcse
                  obtain ⟨la2, lc2, rfl, _⟩ := id hlv2
                  have ea : ∀ k, oo + (n + 1) * 6 + j * 6 + k = oo + (n + 1 + j) * 6 + k := fun k => by omega
                  have gk : ∀ k u, w.cell? ⟨ob, oo + (n + 1 + j) * 6 + k, none⟩ = some u → wr.cell? ⟨ob, oo + (n + 1) * 6 + j * 6 + k, none⟩ = some u := fun k u hh => (BJ2.out.cell (p := ⟨ob, oo + (n + 1) * 6 + j * 6 + k, none⟩) hobl).trans (by rw [ea k]; exact hh)
                  have g0 := gk 0 _ (hcell 0 _ rfl)
                  have g1 := gk 1 _ (hcell 1 _ rfl)
                  have g2 := gk 2 _ (hcell 2 _ rfl)
                  have g3 := gk 3 _ (hcell 3 _ rfl)
                  have g4 := gk 4 _ (hcell 4 _ rfl)
                  have g5 := gk 5 _ (hcell 5 _ rfl)
                  rw [Nat.add_zero] at g0
                  clear gk
                  have HB3 := hid (HBD.out (n + 1 + j) (by omega) (by omega))
                  have NX : Hid (¬ (isW (T.getD (n + 1 + j) default).kind = true ∧ (T.getD (n + 1 + j) default).key = KY) → ∀ m, n < m → m < n + 1 + (j + 1) → ¬ (isW (T.getD m default).kind = true ∧ (T.getD m default).key = KY)) := fun hne m a b => by
                    by_cases e : m = n + 1 + j
                    · rw [e]; exact hne
                    · exact NJ.out m a (by omega)
                  clear hcell hlv2 ea NJ
                  generalize T.getD (n + 1 + j) default = O2 at *
                  obtain ⟨ok2, os2, ov2, ol2, oh2, on2⟩ := O2
                  simp only [MOp.kind, MOp.key, MOp.value, MOp.list, MOp.has, MOp.nl] at g0 g1 g2 g3 g4 g5 HB3 NX
                  have RW2 := hid (fun W => rwrite_is (ok2, os2, ov2, ol2, oh2, on2) la2 lc2 W)
                  simp only [opV, MOp.kind, MOp.key, MOp.value, MOp.list, MOp.has, MOp.nl] at RW2
                  go_upto_region 9 with fail
                  obtain ⟨Wb, hWb⟩ : ∃ Wb, wr.alloc (.cells #[.int .i64 ok2, .string os2, .int .i64 ov2, .slice la2 ol2.length lc2, .bool oh2, .bool on2] 49) = Wb := ⟨_, rfl⟩
                  obtain ⟨zb, hzb⟩ : ∃ zb, wr.heap.size = zb := ⟨_, rfl⟩
                  have k0 : Wb.cell? ⟨zb, 0, none⟩ = some (.int .i64 ok2) := by rw [← hWb, ← hzb]; simp
                  have k1 : Wb.cell? ⟨zb, 1, none⟩ = some (.string os2) := by rw [← hWb, ← hzb]; simp
                  have k2 : Wb.cell? ⟨zb, 2, none⟩ = some (.int .i64 ov2) := by rw [← hWb, ← hzb]; simp
                  have k3 : Wb.cell? ⟨zb, 3, none⟩ = some (.slice la2 ol2.length lc2) := by rw [← hWb, ← hzb]; simp
                  have k4 : Wb.cell? ⟨zb, 4, none⟩ = some (.bool oh2) := by rw [← hWb, ← hzb]; simp
                  have k5 : Wb.cell? ⟨zb, 5, none⟩ = some (.bool on2) := by rw [← hWb, ← hzb]; simp
                  have hzl : zb < Wb.heap.size := by rw [← hWb, ← hzb, alloc_size]; omega
                  have BB : Hid (Below w2.heap.size w2 Wb) := by rw [← hWb]; exact BJ.out.trans ((below_box wr _).mono BJ.out.size)
                  rw [hWb, hzb]
                  have m1 := (BB.out.cell (p := ⟨ob, oo + n * 6 + 1, none⟩) hob2).trans z1
                  have mp := (BB.out.cell (p := ⟨xb, 1, none⟩) hx2).trans zp
                  have hobW : ob < Wb.heap.size := Nat.lt_of_lt_of_le hob2 BB.out.size
                  have hxW : xb < Wb.heap.size := Nat.lt_of_lt_of_le hx2 BB.out.size
                  clear hWb hzb g0 g1 g2 g3 g4 g5 BJ BJ2
                  clear RW2
                  cases hw2 : isW ok2 with
                  | false =>
                    have WG := hid (fun W => write_g ok2 os2 ov2 (.slice la2 ol2.length lc2) oh2 on2 W false hw2)
                    have N3 := hid (NX.out (fun c => by rw [hw2] at c; exact absurd c.1 (by decide)))
                    clear hw2 HB3 NX
                    have v0 := gcell k0
                    have v1 := gcell k1
                    have v2 := gcell k2
                    have v3 := gcell k3
                    have v4 := gcell k4
                    have v5 := gcell k5
                    have v6 := gcell m1
                    have v7 := gcell mp
                    have mixed := Try.mixed
                    refine wp_region_quiet_grown (by assumption) (by kernel_rfl) ?_
                    repeat (go_big_quiet_step ((go_at_call 63; exact Calls.grown_of (WG.out _))))
                    refine wpQuiet_nil ?_
                    intro w9 hw9
                    obtain ⟨⟨nq9, osq⟩, hw8⟩ := hw9
                    subst hw8
                    have B5 : Hid (Below w2.heap.size w2 (grow (Wb.drewN nq9) osq)) := BB.out.trans ((below_grow Wb nq9 osq).mono BB.out.size)
                    go_wp2_with fail
                    go_roundg (R - (j + 1))
                    · exact ⟨j + 1, by omega, by omega, by go_num, B5.out, N3.out⟩
                    · omega
                  | true =>
                    have WG := hid (fun W => write_g ok2 os2 ov2 (.slice la2 ol2.length lc2) oh2 on2 W true hw2)
                    by_cases hks : os2 = KY
                    · have hkb : (os2.toList == KY.toList) = true := by rw [hks]; simp
                      have HN : Hid (¬ finL l (tn : Int) (n : Int)) := fun c => HB3.out ⟨hw2, hks⟩ (FD2.out.1 c)
                      clear hw2 HB3 NX hks
                      have v0 := gcell k0
                      have v1 := gcell k1
                      have v2 := gcell k2
                      have v3 := gcell k3
                      have v4 := gcell k4
                      have v5 := gcell k5
                      have v6 := gcell m1
                      have v7 := gcell mp
                      have mixed := Try.mixed
                      refine wp_region_quiet_grown (by assumption) (by kernel_rfl) ?_
                      repeat (go_big_quiet_step ((go_at_call 63; exact Calls.grown_of (WG.out _))))
                      refine wpQuiet_nil ?_
                      intro w9 hw9
                      obtain ⟨⟨nq9, osq⟩, hw8⟩ := hw9
                      subst hw8
                      have B5 : Hid (Below w2.heap.size w2 (grow (Wb.drewN nq9) osq)) := BB.out.trans ((below_grow Wb nq9 osq).mono BB.out.size)
                      go_wp2_with fail
                      have B6 : Hid (Below w.heap.size w (grow (Wb.drewN nq9) osq)) := B2.out.trans (B5.out.mono B2.out.size)
                      go_ret
                      exact ⟨false, rfl, ⟨fun c => absurd c (by decide), fun c => absurd c HN.out⟩, B6.out⟩
                    · have hkb : (os2.toList == KY.toList) = false := by
                        cases hc : (os2.toList == KY.toList) with
                        | false => rfl
                        | true => exact absurd (cond_ws ▸ hc) hks
                      have N3 := hid (NX.out (fun c => hks c.2))
                      clear hw2 HB3 NX
                      have v0 := gcell k0
                      have v1 := gcell k1
                      have v2 := gcell k2
                      have v3 := gcell k3
                      have v4 := gcell k4
                      have v5 := gcell k5
                      have v6 := gcell m1
                      have v7 := gcell mp
                      have mixed := Try.mixed
                      refine wp_region_quiet_grown (by assumption) (by kernel_rfl) ?_
                      repeat (go_big_quiet_step ((go_at_call 63; exact Calls.grown_of (WG.out _))))
                      refine wpQuiet_nil ?_
                      intro w9 hw9
                      obtain ⟨⟨nq9, osq⟩, hw8⟩ := hw9
                      subst hw8
                      have B5 : Hid (Below w2.heap.size w2 (grow (Wb.drewN nq9) osq)) := BB.out.trans ((below_grow Wb nq9 osq).mono BB.out.size)
                      go_wp2_with fail
                      go_roundg (R - (j + 1))
                      · exact ⟨j + 1, by omega, by omega, by go_num, B5.out, N3.out⟩
                      · omega
                · have FIN : Hid (finL l (tn : Int) (n : Int)) := FD2.out.2 (HFT2.out (fun m a b => NJ.out m a (by omega)))
                  clear NJ FD2 HFT2 HBD
                  go_wp2_with fail
                  go_ret
                  exact ⟨true, rfl, ⟨fun _ => FIN.out, fun _ => rfl⟩, BJ2.out⟩
        · have hig : (T.length : Int) ≤ i := by omega
          have hid' : decide ((T.length : Int) ≤ i) = true := by simpa using hig
          have HF : Hid (¬ finL l (tn : Int) i) := fun c => by have := (FD.out.1 c).2.1; omega
          go_quiet (fail)
          go_wp2_with fail
          go_ret
          exact ⟨false, rfl, ⟨fun c => absurd c (by decide), fun c => absurd c HF.out⟩, (by first | exact (BQ _).out | exact below_drewN2 BW.out _ _)⟩
    · have htg : (l.length : Int) ≤ t := by omega
      have htd : decide ((l.length : Int) ≤ t) = true := by simpa using htg
      have HF : Hid (¬ finL l t i) := fun c => by have := c.2.1; omega
      go_quiet (fail)
      go_wp2_with fail
      go_ret
      exact ⟨false, rfl, ⟨fun c => absurd c (by decide), fun c => absurd c HF.out⟩, (by first | exact (BQ _).out | exact below_drewN2 BW.out _ _)⟩
end Go.Proofs.Ytnfbcmnlloipiaa
