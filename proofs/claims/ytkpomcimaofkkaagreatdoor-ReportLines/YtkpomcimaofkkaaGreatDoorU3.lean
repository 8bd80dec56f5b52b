/-
  Plain data of transactions and operations, how they lie in memory; lists that a loop fills by append.
  Reports in memory: plain data, how they lie, when two dependencies are the same.
  A report's text, plain: the code's reader over tokens, the document's reader, and that they answer alike.
-/
import Derived.WalkKit
import Derived.ProofKit
import Derived.Deep.AppendLies
import Derived.Deep.LoopGhost
import Derived.Deep.Draws
import Derived.Test.YtkpomcimaofkkaaGreatDoorProg
import Derived.Test.YtkpomcimaofkkaaGreatDoorU2
import Derived.Laws.StructEq
import Derived.Lib.Walk
import Derived.Lib.SmallJoins
import Derived.WalkSpells
import Derived.Deep.RegionHeld3
import Derived.Deep.RegionWith
import Derived.Deep.QuietTactic
import Derived.BigQuiet
import Derived.Lib.SlicesS
namespace Go.Proofs.YtkpomcimaofkkaaGreatDoor.Rp.Tx
set_option linter.unusedVariables false
set_option linter.unusedSimpArgs false
open Go.RowKit
/-- The cells of each element of a slice of length n. -/
def RowCells {α : Type} [Inhabited α] (k : Nat) (R : List Value → α → Prop) (w : World) (ao : Option Addr) (xs : List α) (n : Nat) : Prop :=
  ∀ j, j < n → ∃ b o cs, ao = some ⟨b, o, none⟩ ∧ b < w.heap.size ∧ cs.length = k ∧ R cs (xs.getD j default) ∧ ∀ i u, cs[i]? = some u → w.cell? ⟨b, o + j * k + i, none⟩ = some u

theorem RowsIn.cells {α : Type} [Inhabited α] {k bytes : Nat} {R : List Value → α → Prop} {S : Nat → Prop} {w : World} {v : Value} {l : List α} (h : RowsIn k bytes R S w v l) (hk : 0 < k) :
    ∃ ao c, v = .slice ao l.length c ∧ (l.length * bytes ≤ 140737488355328 ∧ l.length ≤ c) ∧ RowCells k R w ao l l.length := by
  obtain ⟨ao, c, hv, hl, hc⟩ := h
  refine ⟨ao, c, hv, hl, fun j hj => ?_⟩
  obtain ⟨b, off, ha, _, hcc⟩ := hc (by omega)
  obtain ⟨cs, h1, h2, h3⟩ := hcc j hj
  exact ⟨b, off, cs, ha, World.block_lt_of_cell? _ _ (h3 0 cs[0] (List.getElem?_eq_getElem (by omega))), h1, h2, h3⟩

theorem flatten_len {α : Type} (k : Nat) : ∀ (rows : List (List α)), (∀ r ∈ rows, r.length = k) → rows.flatten.length = rows.length * k
  | [], _ => by simp
  | r :: rows, h => by
    have := flatten_len k rows (fun x hx => h x (by simp [hx]))
    simp only [List.flatten_cons, List.length_append, List.length_cons, this, h r (by simp)]
    rw [Nat.add_mul]; omega

theorem flatten_get {α : Type} (k : Nat) : ∀ (rows : List (List α)) (j i : Nat), (∀ r ∈ rows, r.length = k) → j < rows.length → i < k → rows.flatten[j * k + i]? = (rows.getD j [])[i]?
  | [], j, i, _, h, _ => by simp at h
  | r :: rows, 0, i, h, _, hi => by
    have hr := h r (by simp)
    simp only [List.flatten_cons, Nat.zero_mul, Nat.zero_add]
    rw [List.getElem?_append_left (by omega)]
    simp
  | r :: rows, j + 1, i, h, hj, hi => by
    have hr := h r (by simp)
    have ih := flatten_get k rows j i (fun x hx => h x (by simp [hx])) (by simpa using hj) hi
    simp only [List.flatten_cons]
    rw [List.getElem?_append_right (by rw [hr, Nat.add_mul]; omega), hr, show (j + 1) * k + i - k = j * k + i by rw [Nat.add_mul]; omega, ih]
    simp

theorem owns_keep {w w' : World} {base e size n : Nat} {v : Value} {xs : List Value} (h : w.ownsRow base e size v n xs) (hk : ∀ g, v.ownBlock = some g → w'.heap[g]? = w.heap[g]?) : w'.ownsRow base e size v n xs := by
  refine ⟨h.1, ?_⟩
  rcases h.2 with hn | ⟨g, cap, cur, rfl, hb, hgg, rest⟩
  · exact .inl hn
  · exact .inr ⟨g, cap, cur, rfl, hb, (hk g rfl).trans hgg, rest⟩

/-- What a loop has gathered: n rows of 'size' cells in a block of its own, what they lead to elsewhere from B on. -/
structure OutInv {α : Type} [Inhabited α] (e size : Nat) (R : (Nat → Prop) → World → List Value → α → Prop) (B : Nat) (wr : World) (v : Value) (n : Nat) (rows : List (List Value)) (l : List α) : Prop where
  rn : rows.length = n
  ln : l.length = n
  own : wr.ownsRow B e size v n rows.flatten
  sizes : ∀ r ∈ rows, r.length = size
  each : ∀ j, j < n → R (fun b => B ≤ b ∧ v.ownBlock ≠ some b) wr (rows.getD j []) (l.getD j default)

theorem OutInv.nil {α : Type} [Inhabited α] (e size : Nat) (R : (Nat → Prop) → World → List Value → α → Prop) (B : Nat) (wr : World) : OutInv e size R B wr (.slice none 0 0) 0 [] [] :=
  ⟨rfl, rfl, World.ownsRow_nil _ _ _ _, fun _ h => by simp at h, fun j h => by omega⟩

section
variable {α : Type} [Inhabited α] {e size : Nat} {R : (Nat → Prop) → World → List Value → α → Prop} {B : Nat} {wr w3 w4 : World} {v : Value} {n : Nat} {rows : List (List Value)} {l : List α}

/-- In a world in which all older blocks are as they were, the row is as it was. -/
theorem OutInv.own3 (h : OutInv e size R B wr v n rows l) (h3 : Below wr.heap.size wr w3) : w3.ownsRow B e size v n rows.flatten :=
  owns_keep h.own (fun g hg => h3.block g (h.own.lt g hg).2)

/-- In a world in which all older blocks are as they were, all is as it was. -/
theorem OutInv.later (hkeep : ∀ (S T : Nat → Prop) w w' cs x, R S w cs x → KeepsIn S w w' → (∀ b, b < w.heap.size → S b → T b) → R T w' cs x) (h : OutInv e size R B wr v n rows l) (h3 : Below wr.heap.size wr w3) : OutInv e size R B w3 v n rows l :=
  ⟨h.rn, h.ln, h.own3 h3, h.sizes, fun j hj => hkeep _ _ _ _ _ _ (h.each j hj) (keeps_below h3) (fun _ _ h => h)⟩

/-- One element more. -/
theorem OutInv.step (hkeep : ∀ (S T : Nat → Prop) w w' cs x, R S w cs x → KeepsIn S w w' → (∀ b, b < w.heap.size → S b → T b) → R T w' cs x)
    (h : OutInv e size R B wr v n rows l) (hB : B ≤ wr.heap.size) (h3 : Below wr.heap.size wr w3) {row : List Value} {x : α} (hrow : R (fun b => wr.heap.size < b) w3 row x) (hlen : row.length = size)
    {g cap : Nat} (hown : w4.ownsRow B e size (.slice (some ⟨g, 0, none⟩) (n + 1) cap) (n + 1) (rows.flatten ++ row)) (hgrow : w3.grownBy w4 v.ownBlock) (hat : v.ownBlock = some g ∨ g = w3.heap.size) :
    OutInv e size R B w4 (.slice (some ⟨g, 0, none⟩) (n + 1) cap) (n + 1) (rows ++ [row]) (l ++ [x]) := by
  have hsz := h3.size
  have hlt : ∀ k, v.ownBlock = some k → k < wr.heap.size := fun k hk => (h.own.lt k hk).2
  refine ⟨by simp [h.rn], by simp [h.ln], by simpa using hown, ?_, fun j hj => ?_⟩
  · intro r hr
    rcases List.mem_append.1 hr with hr | hr
    · exact h.sizes r hr
    · simp at hr; rw [hr]; exact hlen
  · by_cases hjn : j < n
    · have e1 : (rows ++ [row]).getD j [] = rows.getD j [] := by simp [List.getD, List.getElem?_append_left (show j < rows.length by rw [h.rn]; exact hjn)]
      have e2 : (l ++ [x]).getD j default = l.getD j default := by simp [List.getD, List.getElem?_append_left (show j < l.length by rw [h.ln]; exact hjn)]
      rw [e1, e2]
      refine hkeep _ _ wr w4 _ _ (h.each j hjn) (fun b hb hbl => ?_) (fun b hbl hb => ⟨hb.1, ?_⟩)
      · exact (hgrow.block b (by omega) (fun e => hb.2 e.symm)).trans (h3.block b hbl)
      · simp only [Value.ownBlock]
        intro e
        cases e
        rcases hat with h' | h'
        · exact hb.2 h'
        · omega
    · have hjn' : j = n := by omega
      subst hjn'
      have e1 : (rows ++ [row]).getD j [] = row := by simp [List.getD, ← h.rn]
      have e2 : (l ++ [x]).getD j default = x := by simp [List.getD, ← h.ln]
      rw [e1, e2]
      refine hkeep _ _ w3 w4 _ _ hrow (fun b hb hbl => ?_) (fun b hbl hb => ⟨by omega, ?_⟩)
      · exact hgrow.block b hbl (fun e => by have := hlt b e.symm; omega)
      · simp only [Value.ownBlock]
        intro e
        cases e
        rcases hat with h' | h'
        · have := hlt _ h'; omega
        · omega

/-- At the end: the list lies in memory from B on. -/
theorem OutInv.rows_in {bytes : Nat} (hkeep : ∀ (S T : Nat → Prop) w w' cs x, R S w cs x → KeepsIn S w w' → (∀ b, b < w.heap.size → S b → T b) → R T w' cs x)
    (h : OutInv e size R B wr v n rows l) (hbytes : n * bytes ≤ 140737488355328) : RowsIn size bytes (R (fun b => B ≤ b) wr) (fun b => B ≤ b) wr v l := by
  have hl := h.ln
  subst hl
  rcases h.own.2 with ⟨hv, hn⟩ | ⟨g, cap, cur, hv, hg, hgg, hcap, _⟩
  · exact ⟨none, 0, by rw [hv, hn], ⟨hbytes, by omega⟩, fun h0 => by omega⟩
  · refine ⟨some ⟨g, 0, none⟩, cap, hv, ⟨hbytes, hcap⟩, fun _ => ⟨g, 0, rfl, hg, fun j hj => ?_⟩⟩
    have hjr : j < rows.length := by rw [h.rn]; exact hj
    have hmem : rows.getD j [] ∈ rows := by simp [List.getD, List.getElem?_eq_getElem hjr]
    refine ⟨rows.getD j [], h.sizes _ hmem, hkeep _ _ wr wr _ _ (h.each j hj) (fun _ _ _ => rfl) (fun b _ hb => hb.1), fun i u hi => ?_⟩
    have hil : i < size := by rw [← h.sizes _ hmem]; exact (List.getElem?_eq_some_iff.1 hi).1
    have := h.own.cells (g := g) (by rw [hv]; rfl) (j * size + i) u (by rw [flatten_get size rows j i h.sizes hjr hil]; exact hi)
    rw [Addr.add_lit] at this
    simpa [Nat.add_assoc] using this
end

/-- To store what is there changes nothing. -/
theorem setCell_self {w : World} {a : Addr} {v : Value} (h : w.cell? a = some v) : w.setCell a v = w := by
  have hh : (w.setCell a v).heap = w.heap := by
    apply Array.ext_getElem?
    intro k
    by_cases hk : k = a.block
    · subst hk
      simp only [World.setCell, Array.getElem?_modify, if_true]
      unfold World.cell? at h
      split at h
      · rename_i c t f hc
        split at h
        · cases h
        · rename_i hs
          rw [hc]
          have hlt : a.off < c.size := (Array.getElem?_eq_some_iff.1 h).1
          have hv : c[a.off] = v := (Array.getElem?_eq_some_iff.1 h).2
          simp only [← hv, Option.map_some, Option.some.injEq, Obj.cells.injEq, and_true]
          rw [if_neg hs]
          apply Array.ext_getElem?
          intro j
          rw [Array.getElem?_setIfInBounds]
          by_cases hj : a.off = j
          · subst hj; simp [hlt]
          · simp [hj]
      · cases h
    · exact Below.heap_setCell _ _ _ _ hk
  cases w
  simp only [World.setCell] at hh ⊢
  simp [hh]
end Go.Proofs.YtkpomcimaofkkaaGreatDoor.Rp.Tx
namespace Go.Proofs.YtkpomcimaofkkaaGreatDoor.Rp
set_option linter.unusedVariables false
set_option linter.unusedSimpArgs false
open Go.RowKit
open Tx (RowsIn.cells RowCells)

/-- A dependency, plain. -/
abbrev MW := Int × Int × Int × ByteArray × Int × Int × Bool × Bool
def encW (x : MW) : List Value := [.int .i64 x.1, .int .i64 x.2.1, .int .i64 x.2.2.1, .string x.2.2.2.1, .int .i64 x.2.2.2.2.1, .int .i64 x.2.2.2.2.2.1, .bool x.2.2.2.2.2.2.1, .bool x.2.2.2.2.2.2.2]
/-- An anomaly, plain: kind, txn, op, other, key, value, cycle, real, level. -/
abbrev MA := Int × Int × Int × Int × ByteArray × Int × List MW × Bool × Int
/-- A report, plain: txns, unique, anomalies, level, answer, order. -/
abbrev MR := Int × Bool × List MA × Int × Int × List Int
abbrev All (_ : Nat) : Prop := True
def WhysIn (w : World) (v : Value) (l : List MW) : Prop := RowsIn 8 64 (fun cs x => cs = encW x) All w v l
def encA (a : MA) (cv : Value) : List Value := [.int .i64 a.1, .int .i64 a.2.1, .int .i64 a.2.2.1, .int .i64 a.2.2.2.1, .string a.2.2.2.2.1, .int .i64 a.2.2.2.2.2.1, cv, .bool a.2.2.2.2.2.2.2.1, .int .i64 a.2.2.2.2.2.2.2.2]
abbrev MA.cyc (a : MA) : List MW := a.2.2.2.2.2.2.1
def AnRow (w : World) (cs : List Value) (a : MA) : Prop := ∃ cv, cs = encA a cv ∧ WhysIn w cv a.cyc
def AnsIn (w : World) (v : Value) (l : List MA) : Prop := RowsIn 9 96 (AnRow w) All w v l
def encR (r : MR) (av ov : Value) : Array Value := #[.int .i64 r.1, .bool r.2.1, av, .int .i64 r.2.2.2.1, .int .i64 r.2.2.2.2.1, ov]
def RepIn (w : World) (v : Value) (r : MR) : Prop := ∃ av ov, v = .agg (encR r av ov) ∧ AnsIn w av r.2.2.1 ∧ IntsIn All w ov r.2.2.2.2.2
theorem rows_later {α : Type} [Inhabited α] {k bytes : Nat} {R R' : List Value → α → Prop} {w w' : World} {v : Value} {l : List α} (h : RowsIn k bytes R All w v l) (hk : 0 < k) (hb : Below w.heap.size w w') (hR : ∀ cs a, R cs a → R' cs a) : RowsIn k bytes R' All w' v l := by
  obtain ⟨ao, c, hv, hl, hc⟩ := h
  refine ⟨ao, c, hv, hl, fun h0 => ?_⟩
  obtain ⟨b, off, e1, e2, hj⟩ := hc h0
  refine ⟨b, off, e1, e2, fun j hlt => ?_⟩
  obtain ⟨cs, q1, q2, q3⟩ := hj j hlt
  exact ⟨cs, q1, hR _ _ q2, fun i u hu => (hb.cell (World.block_lt_of_cell? _ _ (q3 i u hu))).trans (q3 i u hu)⟩
theorem WhysIn.later {w w' : World} {v : Value} {l : List MW} (h : WhysIn w v l) (hb : Below w.heap.size w w') : WhysIn w' v l := rows_later h (by omega) hb (fun _ _ h => h)
theorem AnsIn.later {w w' : World} {v : Value} {l : List MA} (h : AnsIn w v l) (hb : Below w.heap.size w w') : AnsIn w' v l := rows_later h (by omega) hb (fun _ _ ⟨cv, h1, h2⟩ => ⟨cv, h1, h2.later hb⟩)
theorem IntsIn.laterB {w w' : World} {v : Value} {l : List Int} (h : IntsIn All w v l) (hb : Below w.heap.size w w') : IntsIn All w' v l := by
  obtain ⟨ao, c, hv, hl, hc⟩ := h
  refine ⟨ao, c, hv, hl, fun h0 => ?_⟩
  obtain ⟨b, off, e1, e2, hj⟩ := hc h0
  exact ⟨b, off, e1, e2, fun j hlt => (hb.cell (World.block_lt_of_cell? _ _ (hj j hlt))).trans (hj j hlt)⟩
theorem RepIn.later {w w' : World} {v : Value} {r : MR} (h : RepIn w v r) (hb : Below w.heap.size w w') : RepIn w' v r := by
  obtain ⟨av, ov, hv, h1, h2⟩ := h
  exact ⟨av, ov, hv, h1.later hb, h2.laterB hb⟩

/-- Whether two dependencies are the same. -/
def wEq (x y : MW) : Bool := x.1 == y.1 && (x.2.1 == y.2.1 && (x.2.2.1 == y.2.2.1 && (x.2.2.2.1.toList == y.2.2.2.1.toList && (x.2.2.2.2.1 == y.2.2.2.2.1 && (x.2.2.2.2.2.1 == y.2.2.2.2.2.1 && (x.2.2.2.2.2.2.1 == y.2.2.2.2.2.2.1 && x.2.2.2.2.2.2.2 == y.2.2.2.2.2.2.2))))))
def whysEq (xs ys : List MW) : Bool := allEq wEq xs ys
/-- Whether two anomalies are the same. -/
def aEq (a b : MA) : Bool := a.1 == b.1 && (a.2.1 == b.2.1 && (a.2.2.1 == b.2.2.1 && (a.2.2.2.1 == b.2.2.2.1 && (a.2.2.2.2.1.toList == b.2.2.2.2.1.toList && (a.2.2.2.2.2.1 == b.2.2.2.2.2.1 && (a.2.2.2.2.2.2.2.1 == b.2.2.2.2.2.2.2.1 && (a.2.2.2.2.2.2.2.2 == b.2.2.2.2.2.2.2.2 && whysEq a.cyc b.cyc)))))))
def ansEq (xs ys : List MA) : Bool := allEq aEq xs ys
/-- Whether two reports are the same. -/
def rEq (a b : MR) : Bool := a.1 == b.1 && (a.2.1 == b.2.1 && (a.2.2.2.1 == b.2.2.2.1 && (a.2.2.2.2.1 == b.2.2.2.2.1 && (intsEq a.2.2.2.2.2 b.2.2.2.2.2 && ansEq a.2.2.1 b.2.2.1))))
theorem wEq_refl (x : MW) : wEq x x = true := by simp [wEq]
theorem wEq_symm (x y : MW) : wEq x y = wEq y x := by
  unfold wEq; rw [beq_sw x.1, beq_sw x.2.1, beq_sw x.2.2.1, beq_sw x.2.2.2.1.toList, beq_sw x.2.2.2.2.1, beq_sw x.2.2.2.2.2.1, beq_sw x.2.2.2.2.2.2.1, beq_sw x.2.2.2.2.2.2.2]
theorem aEq_refl (x : MA) : aEq x x = true := by simp [aEq, whysEq, allEq_refl _ wEq_refl]
theorem aEq_symm (x y : MA) : aEq x y = aEq y x := by
  unfold aEq whysEq; rw [beq_sw x.1, beq_sw x.2.1, beq_sw x.2.2.1, beq_sw x.2.2.2.1, beq_sw x.2.2.2.2.1.toList, beq_sw x.2.2.2.2.2.1, beq_sw x.2.2.2.2.2.2.2.1, beq_sw x.2.2.2.2.2.2.2.2, allEq_symm _ wEq_symm]
theorem rEq_refl (x : MR) : rEq x x = true := by simp [rEq, ansEq, intsEq_refl, allEq_refl _ aEq_refl]
theorem rEq_symm (x y : MR) : rEq x y = rEq y x := by
  unfold rEq ansEq; rw [beq_sw x.1, beq_sw x.2.1, beq_sw x.2.2.2.1, beq_sw x.2.2.2.2.1, intsEq_symm, allEq_symm _ aEq_symm]

set_option maxHeartbeats 2000000 in
set_option maxRecDepth 100000 in
theorem neq_why (x y : MW) (w : World) : (binOp .neq 108 (.agg (encW x).toArray) (.agg (encW y).toArray)).run Tryz.prog w = .ok (.bool (!wEq x y)) w := by
  obtain ⟨x1, x2, x3, x4, x5, x6, x7, x8⟩ := x
  obtain ⟨y1, y2, y3, y4, y5, y6, y7, y8⟩ := y
  simp only [encW, wEq]
  generalize h1 : (x1 == y1) = b1
  generalize h2 : (x2 == y2) = b2
  generalize h3 : (x3 == y3) = b3
  generalize h4 : (x4.toList == y4.toList) = b4
  generalize h5 : (x5 == y5) = b5
  generalize h6 : (x6 == y6) = b6
  generalize h7 : (x7 == y7) = b7
  generalize h8 : (x8 == y8) = b8
  cases b1
  · simp [go_sem, h1]
  cases b2
  · simp [go_sem, h1, h2]
  cases b3
  · simp [go_sem, h1, h2, h3]
  cases b4
  · simp [go_sem, h1, h2, h3, h4]
  cases b5
  · simp [go_sem, h1, h2, h3, h4, h5]
  cases b6
  · simp [go_sem, h1, h2, h3, h4, h5, h6]
  cases b7
  · simp [go_sem, h1, h2, h3, h4, h5, h6, h7]
  cases b8
  · simp [go_sem, h1, h2, h3, h4, h5, h6, h7, h8]
  simp [go_sem, h1, h2, h3, h4, h5, h6, h7, h8]
end Go.Proofs.YtkpomcimaofkkaaGreatDoor.Rp
namespace Go.Proofs.YtkpomcimaofkkaaGreatDoor.Rp
set_option linter.unusedVariables false
set_option linter.unusedSimpArgs false
open Go.RowKit

def wTxns : ByteArray := ⟨#[116, 120, 110, 115]⟩
def wUnique : ByteArray := ⟨#[117, 110, 105, 113, 117, 101]⟩
def wYes : ByteArray := ⟨#[121, 101, 115]⟩
def wNo : ByteArray := ⟨#[110, 111]⟩
def wAnomaly : ByteArray := ⟨#[97, 110, 111, 109, 97, 108, 121]⟩
def wLevel : ByteArray := ⟨#[108, 101, 118, 101, 108]⟩
def wAnswer : ByteArray := ⟨#[97, 110, 115, 119, 101, 114]⟩
def wReal : ByteArray := ⟨#[114, 101, 97, 108]⟩
def wPlain : ByteArray := ⟨#[112, 108, 97, 105, 110]⟩
def wNil : ByteArray := ⟨#[110, 105, 108]⟩
def wValue : ByteArray := ⟨#[118, 97, 108, 117, 101]⟩
def wCond : ByteArray := ⟨#[99, 111, 110, 100]⟩
def wSure : ByteArray := ⟨#[115, 117, 114, 101]⟩
def mOpen : ByteArray := ⟨#[40]⟩
def mClose : ByteArray := ⟨#[41]⟩
def mFrom : ByteArray := ⟨#[91]⟩
def mTo : ByteArray := ⟨#[93]⟩
/-- The code's words, each at its place. -/
def kindWs : List ByteArray := [⟨#[]⟩, ⟨#[105, 110, 116, 101, 114, 110, 97, 108]⟩, ⟨#[103, 97, 114, 98, 97, 103, 101]⟩, ⟨#[116, 119, 105, 99, 101]⟩, ⟨#[102, 111, 114, 107]⟩, ⟨#[97, 98, 111, 114, 116, 101, 100]⟩, ⟨#[109, 105, 100, 100, 108, 101]⟩, ⟨#[111, 114, 100, 101, 114]⟩, ⟨#[103, 48]⟩, ⟨#[103, 49, 99]⟩, ⟨#[115, 105, 110, 103, 108, 101]⟩, ⟨#[103, 50]⟩]
def labelWs : List ByteArray := [⟨#[]⟩, ⟨#[119, 119]⟩, ⟨#[119, 114]⟩, ⟨#[]⟩, ⟨#[114, 119]⟩, ⟨#[]⟩, ⟨#[]⟩, ⟨#[]⟩, ⟨#[114, 116]⟩]
def answerWs : List ByteArray := [⟨#[110, 111, 110, 101]⟩, ⟨#[121, 101, 115]⟩, ⟨#[110, 111]⟩, ⟨#[117, 110, 107, 110, 111, 119, 110]⟩]
def levelWs : List ByteArray := [⟨#[110, 111, 110, 101]⟩, ⟨#[112, 108, 49]⟩, ⟨#[112, 108, 50]⟩, ⟨#[112, 108, 50, 112, 108, 117, 115]⟩, ⟨#[112, 108, 51]⟩, ⟨#[115, 116, 114, 105, 99, 116]⟩]
/-- The document's. -/
def rkindWs : List ByteArray := [⟨#[105, 110, 116, 101, 114, 110, 97, 108]⟩, ⟨#[103, 97, 114, 98, 97, 103, 101]⟩, ⟨#[116, 119, 105, 99, 101]⟩, ⟨#[102, 111, 114, 107]⟩, ⟨#[97, 98, 111, 114, 116, 101, 100]⟩, ⟨#[109, 105, 100, 100, 108, 101]⟩, ⟨#[111, 114, 100, 101, 114]⟩, ⟨#[103, 48]⟩, ⟨#[103, 49, 99]⟩, ⟨#[115, 105, 110, 103, 108, 101]⟩, ⟨#[103, 50]⟩]
def rlabelWs : List ByteArray := [⟨#[119, 119]⟩, ⟨#[119, 114]⟩, ⟨#[114, 119]⟩, ⟨#[114, 116]⟩]
/-- A part of a text: what it is and the tokens behind it; or it is none. -/
abbrev Qs (α : Type) := Option (α × List MTok)
def andQ {α β : Type} (p : Qs α) (f : α → List MTok → Qs β) : Qs β := match p with
  | none => none
  | some z => f z.1 z.2
def qSees (l : List MTok) (x : ByteArray) : Bool := match l with
  | [] => false
  | t :: _ => t.2.2.1.toList == x.toList
def qText (x : ByteArray) (l : List MTok) : Qs Unit := if qSees l x then some ((), l.tail) else none
def qTake (k : Int) : List MTok → Qs MTok
  | [] => none
  | t :: r => if t.1 = k then some (t, r) else none
def qNum (l : List MTok) : Qs Int := andQ (qTake 2 l) fun t r => some (t.2.2.2, r)
def qEither (y n : ByteArray) (l : List MTok) : Qs Bool := if qSees l y then andQ (qText y l) fun _ r => some (true, r) else andQ (qText n l) fun _ r => some (false, r)
def idxB (x : ByteArray) : List ByteArray → Nat → Option Nat
  | [], _ => none
  | y :: ys, k => if x.toList == y.toList then some k else idxB x ys (k + 1)
def qOne (ws : List ByteArray) (l : List MTok) : Qs Int := andQ (qTake 1 l) fun t r => match idxB t.2.2.1 ws 0 with
  | some n => some ((n : Int), r)
  | none => none
def qLines : List MTok → List MTok
  | [] => []
  | t :: r => if t.1 = 4 then qLines r else t :: r
def qLineEnd (l : List MTok) : Qs Unit := andQ (qTake 4 l) fun _ r => some ((), qLines r)
def qKey (l : List MTok) : Qs ByteArray := andQ (qText mOpen l) fun _ r => if qSees r mClose then andQ (qText mClose r) fun _ r => some (⟨#[]⟩, r) else andQ (qTake 1 r) fun t r => andQ (qText mClose r) fun _ r => some (t.2.2.1, r)
def qDep (l : List MTok) : Qs MW :=
  andQ (qText mFrom l) fun _ l => andQ (qNum l) fun f l => andQ (qOne labelWs l) fun b l => andQ (qNum l) fun t l => andQ (qKey l) fun k l =>
  andQ (qNum l) fun x l => andQ (qNum l) fun y l => andQ (qEither wNil wValue l) fun n l => andQ (qEither wCond wSure l) fun c l => andQ (qText mTo l) fun _ l => some ((f, t, b, k, x, y, n, c), l)
def qDeps : Nat → List MTok → List MW → Qs (List MW)
  | 0, l, acc => some (acc, l)
  | f + 1, l, acc => if qSees l mFrom then andQ (qDep l) fun x r => qDeps f r (acc ++ [x]) else some (acc, l)
def qAn (l : List MTok) : Qs MA :=
  andQ (qText wAnomaly l) fun _ l => andQ (qOne kindWs l) fun k l => andQ (qNum l) fun t l => andQ (qNum l) fun o l => andQ (qNum l) fun p l => andQ (qKey l) fun s l =>
  andQ (qNum l) fun v l => andQ (qEither wReal wPlain l) fun r l => andQ (qOne levelWs l) fun e l => andQ (qDeps (l.length + 1) l []) fun c l => some ((k, t, o, p, s, v, c, r, e), l)
def qAns : Nat → List MTok → List MA → Qs (List MA)
  | 0, l, acc => some (acc, l)
  | f + 1, l, acc => if qSees l wAnomaly then andQ (qAn l) fun x r => andQ (qLineEnd r) fun _ r => qAns f r (acc ++ [x]) else some (acc, l)
def qNums : Nat → List MTok → List Int → Qs (List Int)
  | 0, l, acc => some (acc, l)
  | f + 1, l, acc => if qSees l mClose then some (acc, l) else andQ (qNum l) fun x r => qNums f r (acc ++ [x])
def qOrder (l : List MTok) : Qs (List Int) := andQ (qText mOpen l) fun _ l => andQ (qNums (l.length + 1) l []) fun xs l => andQ (qText mClose l) fun _ l => some (xs, l)
def qEnd (r : MR) (l : List MTok) : Qs MR := if qLines l = [] then some (r, []) else none
def qRep (l : List MTok) : Qs MR :=
  andQ (qText wTxns (qLines l)) fun _ l => andQ (qNum l) fun n l => andQ (qLineEnd l) fun _ l => andQ (qText wUnique l) fun _ l => andQ (qEither wYes wNo l) fun u l => andQ (qLineEnd l) fun _ l =>
  andQ (qAns (l.length + 1) l []) fun a l => andQ (qText wLevel l) fun _ l => andQ (qOne levelWs l) fun e l => andQ (qLineEnd l) fun _ l => andQ (qText wAnswer l) fun _ l => andQ (qOne answerWs l) fun w l =>
  if w = 1 then andQ (qOrder l) fun xs l => qEnd (n, u, a, e, w, xs) l else qEnd (n, u, a, e, w, []) l
/-! The document's reader: the tokens left, and whether it failed. -/
abbrev Qr := List MTok × Bool
def rqIs (r : Qr) (k : Int) (x : ByteArray) : Bool := !r.2 && (match r.1 with
  | [] => false
  | t :: _ => t.1 == k && (x.size == 0 || t.2.2.1.toList == x.toList))
def rqTake (r : Qr) (k : Int) (x : ByteArray) : MTok × Qr := if rqIs r k x then (r.1.headD (0, 0, ⟨#[]⟩, 0), (r.1.tail, false)) else ((0, 0, ⟨#[]⟩, 0), (r.1, true))
def rqNum (r : Qr) : Int × Qr := ((rqTake r 2 ⟨#[]⟩).1.2.2.2, (rqTake r 2 ⟨#[]⟩).2)
def rqOne : List ByteArray → Nat → Qr → Int × Qr
  | [], _, r => (0, (r.1, true))
  | x :: xs, k, r => if rqIs r 1 x then ((k : Int), (rqTake r 1 x).2) else rqOne xs (k + 1) r
def rqKey (r : Qr) : ByteArray × Qr :=
  let r1 := (rqTake r 3 mOpen).2
  if rqIs r1 1 ⟨#[]⟩ then ((rqTake r1 1 ⟨#[]⟩).1.2.2.1, (rqTake (rqTake r1 1 ⟨#[]⟩).2 3 mClose).2) else (⟨#[]⟩, (rqTake r1 3 mClose).2)
/-- What the parser answers, the reader answers too; where it fails, so does the reader. -/
def SimQ {α : Type} (l : List MTok) (p : Qs α) (q : α × Qr) : Prop := match p with
  | some z => q = (z.1, (z.2, false)) ∧ z.2 <:+ l
  | none => q.2.2 = true
theorem SimQ.bind {α β : Type} {l : List MTok} {p : Qs α} {q : α × Qr} (f : α → List MTok → Qs β) (g : α → Qr → β × Qr) (h : SimQ l p q) (hf : ∀ x l', l' <:+ l → SimQ l' (f x l') (g x (l', false)))
    (hg : ∀ x l', (g x (l', true)).2.2 = true) : SimQ l (andQ p f) (g q.1 q.2) := by
  cases p with
  | none =>
    obtain ⟨q1, q2, q3⟩ := q
    have h' : q3 = true := h
    subst h'
    exact hg q1 q2
  | some z =>
    obtain ⟨h1, h2⟩ := h
    subst h1
    have h3 := hf z.1 z.2 h2
    show SimQ l (f z.1 z.2) (g z.1 (z.2, false))
    cases e : f z.1 z.2 with
    | none => rw [e] at h3; exact h3
    | some y => rw [e] at h3; exact ⟨h3.1, h3.2.trans h2⟩
def rqText (r : Qr) (k : Int) (x : ByteArray) : Unit × Qr := ((), (rqTake r k x).2)
def rqEither (y n : ByteArray) (r : Qr) : Bool × Qr := ((rqOne [y, n] 0 r).1 == 0, (rqOne [y, n] 0 r).2)
theorem rqIs_bad (l : List MTok) (k : Int) (x : ByteArray) : rqIs (l, true) k x = false := rfl
theorem rqTake_bad (l : List MTok) (k : Int) (x : ByteArray) : rqTake (l, true) k x = ((0, 0, ⟨#[]⟩, 0), (l, true)) := rfl
theorem rqNum_bad (l : List MTok) : rqNum (l, true) = (0, (l, true)) := rfl
theorem rqOne_bad (l : List MTok) : ∀ (ws : List ByteArray) (k : Nat), rqOne ws k (l, true) = (0, (l, true))
  | [], _ => rfl
  | x :: xs, k => by
    unfold rqOne
    rw [rqIs_bad, if_neg (by simp)]
    exact rqOne_bad l xs (k + 1)
theorem rqKey_bad (l : List MTok) : rqKey (l, true) = (⟨#[]⟩, (l, true)) := rfl
/-- A token's text tells its kind. -/
def KindOf (x : ByteArray) (k : Int) : Prop := ∀ t : MTok, TokOk t → t.2.2.1.toList = x.toList → t.1 = k
def Toks (l : List MTok) : Prop := ∀ t ∈ l, TokOk t
theorem sees_is {l : List MTok} {x : ByteArray} {k : Int} (hx : KindOf x k) (h0 : ¬ x.size = 0) (hl : Toks l) : rqIs (l, false) k x = qSees l x := by
  cases l with
  | nil => rfl
  | cons t r =>
    show (true && (t.1 == k && (x.size == 0 || t.2.2.1.toList == x.toList))) = (t.2.2.1.toList == x.toList)
    have e0 : (x.size == 0) = false := by simpa using h0
    rw [e0, Bool.true_and, Bool.false_or]
    by_cases e : t.2.2.1.toList = x.toList
    · have hk := hx t (hl t (List.mem_cons_self ..)) e
      rw [e, hk]
      simp
    · have : (t.2.2.1.toList == x.toList) = false := by simpa using e
      rw [this, Bool.and_false]
theorem sees_took {l : List MTok} {x : ByteArray} (h : qSees l x = true) : l.tail <:+ l := List.tail_suffix l
theorem rqTake_yes {l : List MTok} {k : Int} {x : ByteArray} (h : rqIs (l, false) k x = true) : rqTake (l, false) k x = (l.headD (0, 0, ⟨#[]⟩, 0), (l.tail, false)) := if_pos h
theorem rqTake_no {r : Qr} {k : Int} {x : ByteArray} (h : rqIs r k x = false) : rqTake r k x = ((0, 0, ⟨#[]⟩, 0), (r.1, true)) := if_neg (by rw [h]; simp)
theorem text_sim {l : List MTok} {x : ByteArray} {k : Int} (hx : KindOf x k) (h0 : ¬ x.size = 0) (hl : Toks l) : SimQ l (qText x l) (rqText (l, false) k x) := by
  have e := sees_is hx h0 hl
  unfold qText rqText
  cases h : qSees l x with
  | true => rw [rqTake_yes (e.trans h), if_pos rfl]; exact ⟨rfl, List.tail_suffix l⟩
  | false => rw [rqTake_no (e.trans h), if_neg (by simp)]; exact rfl
theorem is_any (t : MTok) (r : List MTok) (k : Int) : rqIs (t :: r, false) k ⟨#[]⟩ = (t.1 == k) := by
  show (true && (t.1 == k && (true || _))) = _
  simp
theorem take_sim (l : List MTok) (k : Int) : SimQ l (qTake k l) (rqTake (l, false) k ⟨#[]⟩) := by
  cases l with
  | nil => exact rfl
  | cons t r =>
    by_cases h : t.1 = k
    · have e : qTake k (t :: r) = some (t, r) := if_pos h
      rw [e, rqTake_yes (by rw [is_any]; simpa using h)]
      exact ⟨rfl, List.suffix_cons _ _⟩
    · have e : qTake k (t :: r) = none := if_neg h
      rw [e, rqTake_no (by rw [is_any]; simpa using h)]
      exact rfl
theorem num_sim (l : List MTok) : SimQ l (qNum l) (rqNum (l, false)) :=
  SimQ.bind (fun (t : MTok) r => some (t.2.2.2, r)) (fun (t : MTok) r => (t.2.2.2, r)) (take_sim l 2) (fun t l' h => ⟨rfl, List.suffix_refl _⟩) (fun _ _ => rfl)
theorem either_sim {y n : ByteArray} {l : List MTok} (hy : KindOf y 1) (hn : KindOf n 1) (y0 : ¬ y.size = 0) (n0 : ¬ n.size = 0) (hl : Toks l) : SimQ l (qEither y n l) (rqEither y n (l, false)) := by
  have ey := sees_is hy y0 hl
  have en := sees_is hn n0 hl
  unfold qEither rqEither rqOne
  cases h : qSees l y with
  | true =>
    rw [if_pos rfl, if_pos (ey.trans h), rqTake_yes (ey.trans h)]
    unfold qText
    rw [h, if_pos rfl]
    exact ⟨rfl, List.tail_suffix l⟩
  | false =>
    rw [if_neg (by simp), if_neg (by rw [ey, h]; simp)]
    unfold rqOne qText
    cases h2 : qSees l n with
    | true =>
      rw [if_pos rfl, if_pos (en.trans h2), rqTake_yes (en.trans h2)]
      exact ⟨rfl, List.tail_suffix l⟩
    | false =>
      rw [if_neg (by simp), if_neg (by rw [en, h2]; simp)]
      unfold rqOne
      exact rfl
theorem rqOne_tok {t : MTok} {r : List MTok} (h1 : t.1 = 1) : ∀ (ws : List ByteArray) (k : Nat), (∀ x ∈ ws, ¬ x.size = 0) →
    rqOne ws k (t :: r, false) = match idxB t.2.2.1 ws k with
      | some n => ((n : Int), (r, false))
      | none => (0, (t :: r, true))
  | [], k, _ => rfl
  | x :: xs, k, h0 => by
    have e0 : (x.size == 0) = false := by simpa using h0 x (List.mem_cons_self ..)
    have e : rqIs (t :: r, false) 1 x = (t.2.2.1.toList == x.toList) := by
      show (true && (t.1 == 1 && (x.size == 0 || _))) = _
      rw [e0, h1]; simp
    unfold rqOne idxB
    cases h : t.2.2.1.toList == x.toList with
    | true => rw [if_pos (e.trans h), if_pos rfl, rqTake_yes (e.trans h)]; rfl
    | false =>
      rw [if_neg (by rw [e, h]; simp), if_neg (by simp)]
      exact rqOne_tok h1 xs (k + 1) (fun y hy => h0 y (List.mem_cons_of_mem _ hy))
theorem rqOne_not {l : List MTok} (h : ∀ x, rqIs (l, false) 1 x = false) : ∀ (ws : List ByteArray) (k : Nat), rqOne ws k (l, false) = (0, (l, true))
  | [], k => rfl
  | x :: xs, k => by
    unfold rqOne
    rw [h x, if_neg (by simp)]
    exact rqOne_not h xs (k + 1)
theorem one_sim {ws : List ByteArray} (h0 : ∀ x ∈ ws, ¬ x.size = 0) (l : List MTok) : SimQ l (qOne ws l) (rqOne ws 0 (l, false)) := by
  cases l with
  | nil => rw [rqOne_not (fun _ => rfl)]; exact rfl
  | cons t r =>
    by_cases h1 : t.1 = 1
    · rw [rqOne_tok h1 ws 0 h0]
      have e : qTake 1 (t :: r) = some (t, r) := if_pos h1
      unfold qOne
      rw [e]
      show SimQ (t :: r) (match idxB t.2.2.1 ws 0 with
        | some n => some ((n : Int), r)
        | none => none) _
      cases idxB t.2.2.1 ws 0 with
      | none => exact rfl
      | some n => exact ⟨rfl, List.suffix_cons _ _⟩
    · have e : qTake 1 (t :: r) = none := if_neg h1
      have e1 : (t.1 == 1) = false := by simpa using h1
      unfold qOne
      rw [e, rqOne_not (fun x => by show (true && (t.1 == 1 && _)) = _; rw [e1]; rfl)]
      exact rfl
theorem idxB_shift (x : ByteArray) : ∀ (ws : List ByteArray) (k : Nat), idxB x ws (k + 1) = (idxB x ws k).map (· + 1)
  | [], k => rfl
  | y :: ys, k => by
    unfold idxB
    split
    · rfl
    · exact idxB_shift x ys (k + 1)
theorem text_eq {a b : ByteArray} (h : a.toList = b.toList) : a = b := (Lib.bytes_beq_iff a b).1 (by rw [h]; simp)
/-- A word's text is no other token's. -/
theorem kind_word {x : ByteArray} {b : UInt8} {r : List UInt8} (hx : x.data.toList = b :: r) (hb : isSm b.toNat = true) : KindOf x 1 := by
  intro t ht he
  have e := text_eq he
  have e2 : tx t = b :: r := by show t.2.2.1.data.toList = _; rw [e, hx]
  simp only [isSm, Bool.and_eq_true, decide_eq_true_eq] at hb
  rcases ht with h | ⟨_, _, _, h⟩ | ⟨_, _, c, h, hc⟩ | ⟨_, _, h⟩
  · exact h.1
  · exfalso
    rw [e2] at h
    unfold decimal at h
    split at h
    · have := dec_digits t.2.2.2.toNat b (by rw [← h]; exact List.mem_cons_self ..)
      simp only [isDg, Bool.and_eq_true, decide_eq_true_eq] at this
      omega
    · have hb45 : b = 45 := (List.cons.inj h).1
      rw [hb45] at hb
      exact absurd hb (by decide)
  · exfalso
    rw [e2] at h
    have : b = c := (List.cons.inj h).1
    rw [this] at hb
    omega
  · exfalso
    rw [e2] at h
    have : b = 10 := (List.cons.inj h).1
    rw [this] at hb
    exact absurd hb (by decide)
/-- A mark's text likewise. -/
theorem kind_mark {x : ByteArray} {b : UInt8} (hx : x.data.toList = [b]) (hb : b.toNat = 40 ∨ b.toNat = 41 ∨ b.toNat = 91 ∨ b.toNat = 93) : KindOf x 3 := by
  intro t ht he
  have e := text_eq he
  have e2 : tx t = [b] := by show t.2.2.1.data.toList = _; rw [e, hx]
  rcases ht with ⟨_, _, c, q, h, hc, _⟩ | ⟨_, _, _, h⟩ | h | ⟨_, _, h⟩
  · exfalso
    rw [e2] at h
    have : b = c := (List.cons.inj h).1
    rw [← this] at hc
    simp only [isSm, Bool.and_eq_true, decide_eq_true_eq] at hc
    omega
  · exfalso
    rw [e2] at h
    unfold decimal at h
    split at h
    · have := dec_digits t.2.2.2.toNat b (by rw [← h]; exact List.mem_cons_self ..)
      simp only [isDg, Bool.and_eq_true, decide_eq_true_eq] at this
      omega
    · have hb45 : b = 45 := (List.cons.inj h).1
      rw [hb45] at hb
      exact absurd hb (by decide)
  · exact h.1
  · exfalso
    rw [e2] at h
    have : b = 10 := (List.cons.inj h).1
    rw [this] at hb
    exact absurd hb (by decide)
theorem k_open : KindOf mOpen 3 := kind_mark rfl (by decide)
theorem k_close : KindOf mClose 3 := kind_mark rfl (by decide)
theorem k_from : KindOf mFrom 3 := kind_mark rfl (by decide)
theorem k_to : KindOf mTo 3 := kind_mark rfl (by decide)
theorem k_txns : KindOf wTxns 1 := kind_word rfl (by decide)
theorem k_unique : KindOf wUnique 1 := kind_word rfl (by decide)
theorem k_yes : KindOf wYes 1 := kind_word rfl (by decide)
theorem k_no : KindOf wNo 1 := kind_word rfl (by decide)
theorem k_anomaly : KindOf wAnomaly 1 := kind_word rfl (by decide)
theorem k_level : KindOf wLevel 1 := kind_word rfl (by decide)
theorem k_answer : KindOf wAnswer 1 := kind_word rfl (by decide)
theorem k_real : KindOf wReal 1 := kind_word rfl (by decide)
theorem k_plain : KindOf wPlain 1 := kind_word rfl (by decide)
theorem k_nil : KindOf wNil 1 := kind_word rfl (by decide)
theorem k_value : KindOf wValue 1 := kind_word rfl (by decide)
theorem k_cond : KindOf wCond 1 := kind_word rfl (by decide)
theorem k_sure : KindOf wSure 1 := kind_word rfl (by decide)
theorem Toks.suf {l l' : List MTok} (h : Toks l) (hs : l' <:+ l) : Toks l' := fun t ht => h t (hs.subset ht)
/-- A key. -/
theorem key_sim {l : List MTok} (hl : Toks l) : SimQ l (qKey l) (rqKey (l, false)) := by
  refine SimQ.bind (q := rqText (l, false) 3 mOpen) (fun _ r => if qSees r mClose then andQ (qText mClose r) fun _ r => some (⟨#[]⟩, r) else andQ (qTake 1 r) fun t r => andQ (qText mClose r) fun _ r => some (t.2.2.1, r))
    (fun _ r1 => if rqIs r1 1 ⟨#[]⟩ then ((rqTake r1 1 ⟨#[]⟩).1.2.2.1, (rqTake (rqTake r1 1 ⟨#[]⟩).2 3 mClose).2) else (⟨#[]⟩, (rqTake r1 3 mClose).2)) (text_sim k_open (by decide) hl) (fun _ l1 hs => ?_) (fun _ l1 => rfl)
  have hl1 := hl.suf hs
  by_cases h1 : rqIs (l1, false) 1 ⟨#[]⟩ = true
  · rw [if_pos h1]
    cases l1 with
    | nil => cases h1
    | cons t r =>
      rw [is_any] at h1
      have k1 : t.1 = 1 := by simpa using h1
      have hsee : qSees (t :: r) mClose = false := by
        cases hc : qSees (t :: r) mClose with
        | false => rfl
        | true =>
          have := sees_is k_close (by decide) hl1
          rw [hc] at this
          have h3 : (true && (t.1 == 3 && _)) = true := this
          rw [k1] at h3
          simp at h3
      rw [if_neg (by rw [hsee]; simp)]
      refine SimQ.bind (q := rqTake (t :: r, false) 1 ⟨#[]⟩) (fun t r => andQ (qText mClose r) fun _ r => some (t.2.2.1, r)) (fun t r => (t.2.2.1, (rqTake r 3 mClose).2)) (take_sim _ 1) (fun u l2 hs2 => ?_) (fun _ _ => rfl)
      exact SimQ.bind (q := rqText (l2, false) 3 mClose) (fun _ r => some (u.2.2.1, r)) (fun _ r => (u.2.2.1, r)) (text_sim k_close (by decide) (hl1.suf hs2)) (fun _ _ _ => ⟨rfl, List.suffix_refl _⟩) (fun _ _ => rfl)
  · rw [if_neg h1]
    have ht := text_sim k_close (by decide) hl1
    by_cases hc : qSees l1 mClose = true
    · rw [if_pos hc]
      exact SimQ.bind (q := rqText (l1, false) 3 mClose) (fun _ r => some ((⟨#[]⟩ : ByteArray), r)) (fun _ r => ((⟨#[]⟩ : ByteArray), r)) ht (fun _ _ _ => ⟨rfl, List.suffix_refl _⟩) (fun _ _ => rfl)
    · rw [if_neg hc]
      have e : qTake 1 l1 = none := by
        cases l1 with
        | nil => rfl
        | cons t r =>
          rw [is_any] at h1
          exact if_neg (by simpa using h1)
      rw [e]
      have hq : qText mClose l1 = none := if_neg hc
      rw [hq] at ht
      exact ht
end Go.Proofs.YtkpomcimaofkkaaGreatDoor.Rp
