/-
  The walk of New.
-/
import Derived.Test.YtnfbcmnlloipiaaTb3
import Derived.Test.YtnfbcmnlloipiaaShelf2
import Derived.Lib.SmallJoins
namespace Go.Proofs.Ytnfbcmnlloipiaa
set_option linter.unusedVariables false
set_option linter.unusedSimpArgs false
open Go.RowKit Go.Lib Go.Maps Go.Sort
open Tx (MTxn info_parts flatten_len flatten_get RowsIn.cells RowCells TxnRow TxnsIn setCell_self cloneInts_any OpsOwn)

/-- The operations of a transaction, with their places. -/
def notesT (k : Nat) (ops : List MOp) : List MN := (List.range ops.length).map fun i => (k, i, ops.getD i default)
def notes (l : List MTxn) : Nat → List MN
  | 0 => []
  | k + 1 => notes l k ++ notesT k (l.getD k default).ops
theorem notesT_len (k : Nat) (ops : List MOp) : (notesT k ops).length = ops.length := by simp [notesT]
theorem notesT_take (k : Nat) (ops : List MOp) (i : Nat) (h : i < ops.length) : (notesT k ops).take (i + 1) = (notesT k ops).take i ++ [(k, i, ops.getD i default)] := by
  rw [List.take_succ_eq_append_getElem (by rw [notesT_len]; exact h)]
  simp [notesT]
theorem notes_len (l : List MTxn) (h : ∀ t ∈ l, t.ops.length ≤ 10) : ∀ k, (notes l k).length ≤ 10 * k
  | 0 => by simp [notes]
  | k + 1 => by
    have ih := notes_len l h k
    rw [notes, List.length_append, notesT_len]
    have : (l.getD k default).ops.length ≤ 10 := by
      by_cases hk : k < l.length
      · have e : l.getD k default = l[k] := by rw [List.getD, List.getElem?_eq_getElem hk]; rfl
        rw [e]
        exact h _ (List.getElem_mem hk)
      · have e : l.getD k default = default := by rw [List.getD, List.getElem?_eq_none (by omega)]; rfl
        rw [e]
        exact Nat.zero_le _
    omega
/-- What can be told of an operation's key and value. -/
def OpOk (o : MOp) : Prop := o.key.size ≤ 281474976710656 ∧ (Lit.int .i64 o.value).wf = true
/-- A table that is being made: the first k transactions have operations of their own. -/
structure Nw (S : Nat → Prop) (B g tb kb wb lb : Nat) (tv : Value) (F D : Nat → Prop) (w : World) (m : Nat) (u : Bool) (N : List MN) (l : List MTxn) (k : Nat) : Prop where
  tab : Tb B w tb kb wb lb tv (.slice none 0 0) F m u N N N
  uq : u = true ↔ uniqN N
  dg : 0 < l.length → D g
  dlt : ∀ b, D b → B ≤ b ∧ b < w.heap.size ∧ ¬ F b
  fz : 0 < l.length → ∀ o, w.frozen? ⟨g, o, none⟩ = false
  row : ∀ j, j < l.length → ∃ ov, (∀ i u, ([.int .i64 (l.getD j default).proc, .int .i64 (l.getD j default).state, .int .i64 (l.getD j default).since, .int .i64 (l.getD j default).till, ov] : List Value)[i]? = some u → w.cell? ⟨g, j * 5 + i, none⟩ = some u) ∧ OpsIn (fun b => if j < k then D b ∧ b ≠ g else S b ∧ b < B) w ov (l.getD j default).ops
section
variable {S : Nat → Prop} {B g tb kb wb lb : Nat} {tv : Value} {F D : Nat → Prop} {w w' : World} {m : Nat} {u : Bool} {N : List MN} {l : List MTxn} {k : Nat}
theorem Nw.low (h : Nw S B g tb kb wb lb tv F D w m u N l k) {b : Nat} (hb : F b) : B ≤ b ∧ b < w.heap.size := h.tab.flt b hb
/-- What is laid in blocks of F, or in new ones, leaves the transactions. -/
theorem Nw.rows (h : Nw S B g tb kb wb lb tv F D w m u N l k) (hg : Gro F w w') : (0 < l.length → ∀ o, w'.frozen? ⟨g, o, none⟩ = false) ∧ ∀ j, j < l.length → ∃ ov, (∀ i u, ([.int .i64 (l.getD j default).proc, .int .i64 (l.getD j default).state, .int .i64 (l.getD j default).since, .int .i64 (l.getD j default).till, ov] : List Value)[i]? = some u → w'.cell? ⟨g, j * 5 + i, none⟩ = some u) ∧ OpsIn (fun b => if j < k then D b ∧ b ≠ g else S b ∧ b < B) w' ov (l.getD j default).ops := by
  have hgb : 0 < l.length → w'.heap[g]? = w.heap[g]? := fun h0 => hg.block g (h.dlt g (h.dg h0)).2.1 (h.dlt g (h.dg h0)).2.2
  refine ⟨fun h0 o => (Tx.frozen_of_block (hgb h0) o).trans (h.fz h0 o), fun j hj => ?_⟩
  obtain ⟨ov, h1, h2⟩ := h.row j hj
  refine ⟨ov, fun i u hi => (World.cell?_of_block (a := ⟨g, j * 5 + i, none⟩) (hgb (by omega))).trans (h1 i u hi), h2.keep (fun b hb hl => hg.block b hl (fun c => ?_)) (fun _ _ x => x)⟩
  dsimp only at hb
  by_cases hjk : j < k
  · rw [if_pos hjk] at hb
    exact (h.dlt b hb.1).2.2 c
  · rw [if_neg hjk] at hb
    have := (h.low c).1
    omega
theorem Nw.later (h : Nw S B g tb kb wb lb tv F D w m u N l k) (hb : Below w.heap.size w w') : Nw S B g tb kb wb lb tv F D w' m u N l k := by
  obtain ⟨r1, r2⟩ := h.rows (Gro.of_below hb)
  exact ⟨h.tab.later hb, h.uq, h.dg, fun b hb2 => ⟨(h.dlt b hb2).1, by have := hb.size; have := (h.dlt b hb2).2.1; omega, (h.dlt b hb2).2.2⟩, r1, r2⟩
/-- An operation is noted. -/
theorem Nw.noted (h : Nw S B g tb kb wb lb tv F D w m u N l k) {e : Ending} {x : MN} (hp : NPost B w tb kb wb lb tv (.slice none 0 0) F m N x e w') : ∃ u', Nw S B g tb kb wb lb tv (wide F w w') D w' (m + 3) u' (N ++ [x]) l k := by
  obtain ⟨_, ⟨u', h1, h2⟩, h3⟩ := hp
  obtain ⟨r1, r2⟩ := h.rows h3
  exact ⟨u', h2, h1, h.dg, fun b hb => ⟨(h.dlt b hb).1, by have := h3.size; have := (h.dlt b hb).2.1; omega, fun c => by
    rcases c with c | c
    · exact (h.dlt b hb).2.2 c
    · have := (h.dlt b hb).2.1; omega⟩, r1, r2⟩
/-- A transaction gets operations of its own. -/
theorem Nw.copied (h : Nw S B g tb kb wb lb tv F D w m u N l k) {w1 : World} {ov' : Value} (hB : B ≤ w.heap.size) (hk : k < l.length) (hb : Below w.heap.size w w1) (ho : OpsOwn (fun b => w.heap.size ≤ b) w1 ov' (l.getD k default).ops) : Nw S B g tb kb wb lb tv F (fun b => D b ∨ (w.heap.size ≤ b ∧ b < w1.heap.size)) (w1.setCell ⟨g, k * 5 + 4, none⟩ ov') m u N l (k + 1) := by
  have h1 := h.later hb
  have h0 : 0 < l.length := by omega
  have hgl := (h.dlt g (h.dg h0)).2.1
  have hblk : ∀ b, b ≠ g → (w1.setCell ⟨g, k * 5 + 4, none⟩ ov').heap[b]? = w1.heap[b]? := fun b hne => set_ne hne
  have hFg : ¬ F g := (h.dlt g (h.dg h0)).2.2
  have hsz : (w1.setCell ⟨g, k * 5 + 4, none⟩ ov').heap.size = w1.heap.size := by simp [World.setCell]
  have hgro : Gro (fun b => b = g) w1 (w1.setCell ⟨g, k * 5 + 4, none⟩ ov') := ⟨rfl, rfl, rfl, by omega, fun b _ hb => hblk b hb⟩
  refine ⟨h1.tab.keep hgro (fun b hb2 e => hFg (e ▸ hb2)), h.uq, fun _ => .inl (h.dg h0), fun b hb2 => ?_, fun _ o => ?_, fun j hj => ?_⟩
  · have := hb.size
    rcases hb2 with hb2 | hb2
    · exact ⟨(h.dlt b hb2).1, by have := (h.dlt b hb2).2.1; omega, (h.dlt b hb2).2.2⟩
    · exact ⟨by omega, by omega, fun c => by have := (h.low c).2; omega⟩
  · rw [World.frozen?_setCell]
    exact h1.fz h0 o
  · obtain ⟨ov, q1, q2⟩ := h1.row j hj
    by_cases e : j = k
    · subst e
      refine ⟨ov', fun i u hi => ?_, ho.ops.keep (fun b hb2 _ => hblk b (by omega)) (fun b hb3 hb2 => by rw [if_pos (by omega)]; exact ⟨.inr ⟨hb2, hb3⟩, by omega⟩)⟩
      by_cases e4 : i = 4
      · subst e4
        have hu : ov' = u := by simpa using hi
        rw [← hu]
        exact World.cell?_setCell_same _ _ _ (q1 4 _ rfl)
      · have hi2 : ([.int .i64 (l.getD j default).proc, .int .i64 (l.getD j default).state, .int .i64 (l.getD j default).since, .int .i64 (l.getD j default).till, ov] : List Value)[i]? = some u := by
          match i, e4, hi with
          | 0, _, hi => exact hi
          | 1, _, hi => exact hi
          | 2, _, hi => exact hi
          | 3, _, hi => exact hi
          | _ + 5, _, hi => simp at hi
        exact (World.cell?_setCell_other _ _ _ _ (fun c => e4 (by have := congrArg Addr.off c; simp only [] at this; omega))).trans (q1 i u hi2)
    · refine ⟨ov, fun i u hi => ?_, q2.keep (fun b hb2 hbl => ?_) (fun b _ hb2 => ?_)⟩
      · have hi5 : i < 5 := by
          have := (List.getElem?_eq_some_iff.1 hi).1
          simpa using this
        exact (World.cell?_setCell_other _ _ _ _ (fun c => by have := congrArg Addr.off c; simp only [] at this; omega)).trans (q1 i u hi)
      · dsimp only at hb2
        refine hblk b ?_
        by_cases hjk : j < k
        · rw [if_pos hjk] at hb2
          exact hb2.2
        · rw [if_neg hjk] at hb2
          have := (h.dlt g (h.dg h0)).1
          omega
      · by_cases hjk : j < k
        · rw [if_pos hjk] at hb2
          rw [if_pos (by omega)]
          exact ⟨.inl hb2.1, hb2.2⟩
        · rw [if_neg hjk] at hb2
          rw [if_neg (by omega)]
          exact hb2
end
theorem txnRow_one {S : Nat → Prop} {w : World} (cs : List Value) (x : MTxn) (h : TxnRow S w cs x) : ∀ u ∈ cs, u.oneCell' = true := by
  obtain ⟨lv, rfl, ⟨ao, c, rfl, _⟩⟩ := h
  intro u hu
  simp only [List.mem_cons, List.not_mem_nil, or_false] at hu
  rcases hu with rfl | rfl | rfl | rfl | rfl <;> rfl
theorem keys_c (mb : Option Nat) (W : World) : Calls Try.prog 33 #[.map mb] W fun e w' => e = .returned (.func (.func 61) #[] #[.pointer (some ⟨W.heap.size, 0, none⟩)]) ∧ w' = W.alloc (.cells #[.map mb] 60) :=
  (callsIn_wide (n := 5)).1 (Try.maps_Keys_36 mb W)
/-- The keys are those of a map that holds the kinds. -/
def KeySet (ss : List (List UInt8)) (N : List MN) : Prop := ∃ (D : DataW Value) (w0 : World) (b n : Nat) (f : Value → Option Value), ss.Perm (strKeys D) ∧ w0.ownsMap Try.prog 9 rawR b n D ∧ (∀ key kl, keyOf Try.prog 9 key = some kl → ∀ zd, D.atKey kl zd = ((f key).map DataW.held).getD zd) ∧ ∀ s, f (.string s) = if kindN N s = 0 then none else some (.int .i64 (kindN N s))
/-- The keys, rising. -/
def KeyRow (B : Nat) (w : World) (kv : Value) (N : List MN) : Prop := ∃ ss : List (List UInt8), w.ownsRow B 9 1 kv ss.length ((ss.mergeSort (fun x y => decide (x ≤ y))).map encStr) ∧ KeySet ss N
theorem sorted_c (b n : Nat) (N : List MN) (w : World) (h : Ks w b n N) (hn : n ≤ 100000) : Calls Try.prog 32 #[.func (.func 61) #[] #[.pointer (some ⟨w.heap.size, 0, none⟩)]] (w.alloc (.cells #[.map (some b)] 60)) fun e w' => ∃ v, e = .returned v ∧ KeyRow w.heap.size w' v N ∧ Below (w.alloc (.cells #[.map (some b)] 60)).heap.size (w.alloc (.cells #[.map (some b)] 60)) w' := by
  obtain ⟨f, ⟨D, hown, hD⟩, hf⟩ := h
  have hs : Maps.size D ≤ n := hown.size_le
  refine ((callsIn_wide (n := 5)).1 (Try.slices_Sorted_keys_35_36 b n D _ w hown (by unfold maxLen; omega) (by omega))).mono ?_
  rintro e w' ⟨v, ss, rfl, hS, hrow, hnil, hb⟩
  refine ⟨v, rfl, ⟨ss, ?_, D, w, b, n, f, hS, hown, hD, hf⟩, hb⟩
  refine ⟨hrow.1, ?_⟩
  rcases hrow.2 with h1 | ⟨g, cap, cur, hv, hg, hr⟩
  · exact .inl h1
  · exact .inr ⟨g, cap, cur, hv, by rw [alloc_size] at hg; omega, hr⟩
theorem Tb.setKeys {B : Nat} {w : World} {tb kb wb lb : Nat} {tv kv : Value} {F : Nat → Prop} {n : Nat} {u : Bool} {Nk Nw' Nl : List MN} (h : Tb B w tb kb wb lb tv kv F n u Nk Nw' Nl) (kv' : Value) : Tb B (w.setCell ⟨tb, 1, none⟩ kv') tb kb wb lb tv kv' F n u Nk Nw' Nl := by
  obtain ⟨b1, b2, b3⟩ := h.boxes
  obtain ⟨S, hS⟩ := h.ws
  have hk : ∀ b, b ≠ tb → (w.setCell ⟨tb, 1, none⟩ kv').heap[b]? = w.heap[b]? := fun b hne => set_ne hne
  refine ⟨?_, h.n1, h.n2, h.n3, h.ft, h.fk, h.fw, h.fl, fun b hb => ⟨(h.flt b hb).1, by simpa [World.setCell] using (h.flt b hb).2⟩, h.ks.same (hk kb (Ne.symm b1)), ⟨S, ?_⟩, h.lt.same (hk lb (Ne.symm b3))⟩
  · unfold World.setCell
    simp [Array.getElem?_modify, h.box]
  · obtain ⟨fw, q1, q2⟩ := hS.map
    exact ⟨⟨fw, q1.same (hk wb (Ne.symm b2)), q2⟩, hS.nil, fun s v => own_same (hS.own s v) (fun g hg => hk g (h.row hS hg).1), hS.foot, hS.apart⟩
/-- A table in memory, as New leaves it. -/
def Made (B : Nat) (w : World) (tb : Nat) (l : List MTxn) : Prop :=
  ∃ kb wb lb tv kv F D m u, Tb B w tb kb wb lb tv kv F m u (notes l l.length) (notes l l.length) (notes l l.length) ∧ (u = true ↔ uniqN (notes l l.length)) ∧ KeyRow B w kv (notes l l.length) ∧ (∀ g, kv.ownBlock = some g → D g) ∧ (∀ b, D b → B ≤ b ∧ b < w.heap.size ∧ ¬ F b) ∧ TxnsIn D w tv l ∧ m ≤ 100000
end Go.Proofs.Ytnfbcmnlloipiaa
