/-
  How many of a transaction's writes of a key are last ones: plain, and in a map; a range over a map whose keys are strings.
-/
import Derived.Test.YtppemdockjbkdaaTb14
import Derived.Maps.RangeWalk
namespace Go.Proofs.Ytppemdockjbkdaa
set_option linter.unusedVariables false
set_option linter.unusedSimpArgs false
open Go.RowKit Go.Lib Go.Maps
open Tx (MTxn info_parts flatten_len flatten_get RowsIn.cells RowCells TxnRow TxnsIn TxnsOwn setCell_self cloneInts_any OpsOwn smallL cutTxn cutOp)

/-- A key as a literal. -/
def kl (s : ByteArray) : Lit := .string s.data.toList
theorem kl_inj {s t : ByteArray} (h : kl s = kl t) : s = t := by
  unfold kl at h
  injection h with h
  exact WideShapes.bytes_inj h
/-- A range over block b, its iterator in block r; 'left' tells which keys are still to come. -/
def RangeV (w : World) (P : Program) (b r n : Nat) (f : Value → Option Value) (left : ByteArray → Bool) (cnt : Nat) : Prop :=
  ∃ (D : DataW Value) (lf : Lit → Bool), w.ranges P 9 rawR b r n D lf cnt ∧ (∀ key k, keyOf P 9 key = some k → ∀ zd, D.atKey k zd = ((f key).map DataW.held).getD zd) ∧ ∀ s, lf (kl s) = left s
theorem RangeV.lt {w : World} {P : Program} {b r n : Nat} {f : Value → Option Value} {left : ByteArray → Bool} {cnt : Nat} (h : RangeV w P b r n f left cnt) : r < w.heap.size := by
  obtain ⟨D, lf, h1, _⟩ := h
  exact h1.lt
theorem RangeV.owns {w : World} {P : Program} {b r n : Nat} {f : Value → Option Value} {left : ByteArray → Bool} {cnt : Nat} (h : RangeV w P b r n f left cnt) : MapV w P 9 b n f := by
  obtain ⟨D, lf, h1, h2, _⟩ := h
  exact ⟨D, h1.owns, h2⟩
theorem RangeV.same {w w' : World} {P : Program} {b r n : Nat} {f : Value → Option Value} {left : ByteArray → Bool} {cnt : Nat} (h : RangeV w P b r n f left cnt) (hb : w'.heap[b]? = w.heap[b]?) (hr : w'.heap[r]? = w.heap[r]?) : RangeV w' P b r n f left cnt := by
  obtain ⟨D, lf, ⟨es, ck, since, seen, c0, q1, q2, q3, q4, q5, q6⟩, h2, h3⟩ := h
  exact ⟨D, lf, ⟨es, ck, since, seen, c0, hb.trans q1, q2, q3, q4, hr.trans q5, q6⟩, h2, h3⟩
theorem size_le {w : World} {P : Program} {b n : Nat} {D : DataW Value} (h : w.ownsMap P 9 rawR b n D) : Maps.size D ≤ n := by
  obtain ⟨es, ck, _, _, h2, rfl⟩ := h
  rw [Maps.size_eq, length_sorted]
  simpa using h2
/-- range m, in a walk. -/
theorem wpList_rangeV {P : Program} {ops : Array Oper} {rest : List Oper} {o : Oper} {a : Act} {Q : Exit → Act → World → Prop} (w : World) (hg : o.guard = none) (m : Operand) (t e : TypeId) (hop : o.op = Op.range t m) (h9 : P.underlying 9 = some .string) (K : Keyed P 9) (ht : P.underlying t = some (.map 9 e)) (b n : Nat) (f : Value → Option Value)
    (hm : a.eval m = .map (some b)) (hown : MapV w P 9 b n f)
    (hK : ∀ w' left cnt, RangeV w' P b w.heap.size n f left cnt → cnt ≤ n → (∀ s : ByteArray, s.size ≤ maxLen → left s = (f (.string s)).isSome) → w.grownBy w' none → w'.heap.size = w.heap.size + 1 → wpList P ops Q rest (a.put o.dst (.pointer (some ⟨w.heap.size, 0, none⟩))) w') :
    wpList P ops Q (o :: rest) a w := by
  obtain ⟨D, h1, h2⟩ := hown
  refine wpList_range_own w hg m t hop 9 e K ht rawR b n D hm h1 (fun w' r1 r2 r3 => ?_)
  refine hK w' (fun s => Maps.has D (kl s)) (Maps.size D) ⟨D, _, r1, h2, fun s => rfl⟩ (size_le h1) (fun s hs => ?_) r2 r3
  have hk : keyOf P 9 (.string s) = some (kl s) := Go.WideMaps.keyOf_string_mk h9 hs
  have hat := h2 _ _ hk
  cases hf : f (.string s) with
  | none =>
    rw [hf] at hat
    exact Maps.has_false_of_atKey hat
  | some v =>
    rw [hf] at hat
    exact Maps.has_true_of_atKey (y := .held v) hat
/-- The next entry, in a walk. -/
theorem wpList_nextV {P : Program} {ops : Array Oper} {rest : List Oper} {o : Oper} {a : Act} {Q : Exit → Act → World → Prop} (w : World) (hg : o.guard = none) (it : Operand) (hop : o.op = Op.next it false) (h9 : P.underlying 9 = some .string) (K : Keyed P 9) (b r n : Nat) (f : Value → Option Value) (left : ByteArray → Bool) (cnt : Nat)
    (hit : a.eval it = .pointer (some ⟨r, 0, none⟩)) (h : RangeV w P b r n f left cnt)
    (hDone : (∀ s, left s = false) → wpList P ops Q rest (a.put o.dst (.tuple #[.bool false])) w)
    (hMore : ∀ (s : ByteArray) (v : Value) (w' : World) (cnt' : Nat), s.size ≤ maxLen → left s = true → f (.string s) = some v → RangeV w' P b r n f (fun z => left z && !decide (z = s)) cnt' → cnt' < cnt →
      w.grownBy w' (some r) → w'.heap.size = w.heap.size → (Instr.entry (.pointer (some ⟨r, 0, none⟩))).run P w' = .ok (.tuple #[.string s, v]) w' → wpList P ops Q rest (a.put o.dst (.tuple #[.bool true, .string s, v])) w') :
    wpList P ops Q (o :: rest) a w := by
  obtain ⟨D, lf, h1, h2, h3⟩ := h
  refine wpList_next_ranges w hg it hop 9 K rawR Value.string (fun v : Value => v) (fun key k hk => ?_) (fun v y hv => ⟨v, rfl⟩) b r n D lf cnt hit h1 (fun _ hl => hDone (fun s => by rw [← h3]; exact hl _)) (fun s v k y w' cnt' hk hlk hv hat hrg hlt hgr hsz hen => ?_)
  · obtain ⟨s, rfl, _, _⟩ := Go.WideMaps.string_of_keyOf h9 hk
    exact ⟨s, rfl⟩
  · obtain ⟨s', e1, e2, e3⟩ := Go.WideMaps.string_of_keyOf h9 hk
    injection e1 with e1
    subst e1
    have hks : k = kl s := e2
    subst hks
    have hy : y.1 = .held v := by
      unfold rawR at hv
      injection hv with hv
      rw [← hv]
    have hf : f (.string s) = some v := by
      have q := h2 _ _ hk .nil
      rw [hat, hy] at q
      cases hf : f (.string s) with
      | none => rw [hf] at q; cases q
      | some u =>
        rw [hf] at q
        injection q with q
        rw [q]
    refine hMore s v w' cnt' e3 (by rw [← h3]; exact hlk) hf ⟨D, _, hrg, h2, fun z => ?_⟩ hlt hgr hsz hen
    show (lf (kl z) && !(kl z).sameKey (kl s)) = _
    rw [h3]
    by_cases e : z = s
    · subst e
      have : (kl z).sameKey (kl z) = true := WideAt.sameKey_self (K.key hk)
      rw [this]
      simp
    · have : (kl z).sameKey (kl s) = false := Maps.sameKey_ne (fun c => e (kl_inj c))
      rw [this]
      simp [e]

/-- Is a key written among the first j operations. -/
def wrote (T : List MOp) : Nat → ByteArray → Bool
  | 0, _ => false
  | j + 1, s => wrote T j s || (isW (T.getD j default).kind && decide ((T.getD j default).key = s))
/-- How many of the first j are the last write of a key, and write that one. -/
def finC (T : List MOp) (fb : Nat → Bool) : Nat → ByteArray → Nat
  | 0, _ => 0
  | j + 1, s => finC T fb j s + (if fb j = true ∧ (T.getD j default).key = s then 1 else 0)
theorem wrote_ex (T : List MOp) (s : ByteArray) : ∀ j, wrote T j s = true → ∃ i, i < j ∧ isW (T.getD i default).kind = true ∧ (T.getD i default).key = s ∧ ∀ m, i < m → m < j → ¬ (isW (T.getD m default).kind = true ∧ (T.getD m default).key = s)
  | 0, h => by cases h
  | j + 1, h => by
    by_cases hj : isW (T.getD j default).kind = true ∧ (T.getD j default).key = s
    · exact ⟨j, by omega, hj.1, hj.2, fun m a b => by omega⟩
    · have h2 : wrote T j s = true := by
        have h3 : (wrote T j s || (isW (T.getD j default).kind && decide ((T.getD j default).key = s))) = true := h
        rcases (Bool.or_eq_true _ _ ▸ h3 : _ ∨ _) with c | c
        · exact c
        · simp only [Bool.and_eq_true, decide_eq_true_eq] at c
          exact absurd c hj
      obtain ⟨i, a, b, c, d⟩ := wrote_ex T s j h2
      exact ⟨i, by omega, b, c, fun m x y => by
        by_cases e : m = j
        · rw [e]; exact hj
        · exact d m x (by omega)⟩
theorem finC_zero (T : List MOp) (fb : Nat → Bool) (hfb : ∀ i, i < T.length → (fb i = true ↔ finT T i)) (s : ByteArray) : ∀ j, j ≤ T.length → wrote T j s = false → finC T fb j s = 0
  | 0, _, _ => rfl
  | j + 1, hj, h => by
    have h3 : (wrote T j s || (isW (T.getD j default).kind && decide ((T.getD j default).key = s))) = false := h
    rw [Bool.or_eq_false_iff] at h3
    rw [finC, finC_zero T fb hfb s j (by omega) h3.1, if_neg (fun c => by
      have := ((hfb j (by omega)).1 c.1).2.1
      rw [this, decide_eq_true c.2] at h3
      exact absurd h3.2 (by decide))]
theorem finC_one (T : List MOp) (fb : Nat → Bool) (hfb : ∀ i, i < T.length → (fb i = true ↔ finT T i)) (s : ByteArray) (h : wrote T T.length s = true) : finC T fb T.length s = 1 := by
  obtain ⟨i, hi, hw, hk, hlast⟩ := wrote_ex T s T.length h
  have key : ∀ j, j ≤ T.length → finC T fb j s = if i < j then 1 else 0 := by
    intro j
    induction j with
    | zero => intro _; simp [finC]
    | succ j ih =>
      intro hj
      rw [finC, ih (by omega)]
      by_cases e : j = i
      · subst e
        rw [if_neg (Nat.lt_irrefl _), if_pos ⟨(hfb j (by omega)).2 ⟨by omega, hw, fun m a b c => hlast m a b ⟨c.1, c.2.trans hk⟩⟩, hk⟩, if_pos (by omega)]
      · have hne : ¬ (fb j = true ∧ (T.getD j default).key = s) := fun c => by
          obtain ⟨q1, q2, q3⟩ := (hfb j (by omega)).1 c.1
          rcases Nat.lt_or_gt_of_ne e with hlt | hgt
          · exact q3 i hlt hi ⟨hw, hk.trans c.2.symm⟩
          · exact hlast j hgt (by omega) ⟨q2, c.2⟩
        rw [if_neg hne]
        by_cases hij : i < j
        · rw [if_pos hij, if_pos (by omega)]
        · rw [if_neg hij, if_neg (by omega)]
  rw [key T.length (Nat.le_refl _), if_pos hi]
/-- The counts in a map. -/
def FM (w : World) (fb0 n : Nat) (T : List MOp) (fb : Nat → Bool) (j : Nat) : Prop := ∃ f, MapV w Try.prog 9 fb0 n f ∧ ∀ s, f (.string s) = if wrote T j s then some (.int .i64 (finC T fb j s : Int)) else none
theorem FM.look {w : World} {fb0 n : Nat} {T : List MOp} {fb : Nat → Bool} {j : Nat} (h : FM w fb0 n T fb j) (hfb : ∀ i, i < T.length → (fb i = true ↔ finT T i)) (hj : j ≤ T.length) (s : ByteArray) (hs : s.size ≤ maxLen) : (Instr.lookup 53 (.map (some fb0)) (.string s) false).run Try.prog w = .ok (.int .i64 (finC T fb j s : Int)) w := by
  obtain ⟨f, h1, h2⟩ := h
  rw [h1.look keys9 Try.underlying53 (zeroI w) (key9 s hs), h2 s]
  cases hw : wrote T j s with
  | true => rfl
  | false => rw [finC_zero T fb hfb s j hj hw]; rfl
theorem FM.same {w w' : World} {fb0 n : Nat} {T : List MOp} {fb : Nat → Bool} {j : Nat} (h : FM w fb0 n T fb j) (hb : w'.heap[fb0]? = w.heap[fb0]?) : FM w' fb0 n T fb j := by
  obtain ⟨f, h1, h2⟩ := h
  exact ⟨f, h1.same hb, h2⟩
theorem FM.lt {w : World} {fb0 n : Nat} {T : List MOp} {fb : Nat → Bool} {j : Nat} (h : FM w fb0 n T fb j) : fb0 < w.heap.size := by
  obtain ⟨f, h1, h2⟩ := h
  exact h1.lt
theorem FM.skip {w : World} {fb0 n : Nat} {T : List MOp} {fb : Nat → Bool} {j : Nat} (h : FM w fb0 n T fb j) (hfb : ∀ i, i < T.length → (fb i = true ↔ finT T i)) (hj : j < T.length) (hw : isW (T.getD j default).kind = false) : FM w fb0 n T fb (j + 1) := by
  obtain ⟨f, h1, h2⟩ := h
  refine ⟨f, h1, fun s => ?_⟩
  rw [h2 s]
  have e1 : wrote T (j + 1) s = wrote T j s := by rw [wrote, hw]; simp
  have e2 : finC T fb (j + 1) s = finC T fb j s := by
    rw [finC, if_neg (fun c => by
      have := ((hfb j hj).1 c.1).2.1
      rw [hw] at this
      cases this)]
    rfl
  rw [e1, e2]
theorem FM.put {w : World} {fb0 n : Nat} {T : List MOp} {fb : Nat → Bool} {j : Nat} (h : FM w fb0 n T fb j) (hn : n < maxLen) (hs : (T.getD j default).key.size ≤ maxLen) (hw : isW (T.getD j default).kind = true) :
    ∃ w', (Instr.mapUpdate 53 (.map (some fb0)) (.string (T.getD j default).key) (.int .i64 (finC T fb (j + 1) (T.getD j default).key : Int))).run Try.prog w = .ok () w' ∧ FM w' fb0 (n + 1) T fb (j + 1) ∧ w.grownBy w' (some fb0) := by
  obtain ⟨f, h1, h2⟩ := h
  obtain ⟨w', g, r1, hp, r2, r3⟩ := h1.put keys9 Try.underlying53 hn (.int .i64 (finC T fb (j + 1) (T.getD j default).key : Int)) (key9 _ hs)
  refine ⟨w', r1, ⟨g, r2, fun s => ?_⟩, r3⟩
  by_cases e : (T.getD j default).key = s
  · have e1 : wrote T (j + 1) s = true := by rw [wrote, hw, decide_eq_true e]; simp
    rw [e1, ← e, hp.1]
    rfl
  · rw [hp.2 (.string s) (fun c => e (Value.string.inj c).symm), h2 s]
    have e1 : wrote T (j + 1) s = wrote T j s := by rw [wrote, decide_eq_false e]; simp
    have e2 : finC T fb (j + 1) s = finC T fb j s := by
      rw [finC, if_neg (fun c => e c.2)]
      rfl
    rw [e1, e2]
theorem FM.made (w : World) (T : List MOp) (fb : Nat → Bool) : FM (w.alloc (.map #[] 0)) w.heap.size 0 T fb 0 := ⟨_, MapV.made w Try.prog 9, fun s => rfl⟩
end Go.Proofs.Ytppemdockjbkdaa
