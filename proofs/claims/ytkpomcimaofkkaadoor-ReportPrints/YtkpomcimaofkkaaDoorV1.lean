/-
  A text's tokens, plain: runs of bytes, numbers, tokens, and what a whole text comes to.
  What strconv.Atoi comes to at a number's bytes.
  A number's decimal digits, and what they are scanned as.
  What is scanned, printed, and scanned again: the plain part.
  Plain data of histories (operations and events), when two are the same, and how they lie in memory.
  Plain data of transactions and operations, how they lie in memory; lists that a loop fills by append.
  Reports in memory: plain data, how they lie, when two dependencies are the same.
  A report's text, plain: the code's reader over tokens, the document's reader, and that they answer alike.
  What stays beside a box.
  The code's reader of a report's text: a key; words in memory, one of them by its place; a level.
  The code's reader of a report's text: one of some words; a level; boxes whole, and lists that grow beside the reader's box.
  The code's reader of a report's text: a level; boxes whole, and lists that grow beside the reader's box.
  A region that draws its order, by what is known of the value of each of its operations: whatever the order, each operation comes once, behind those that it waits for.
-/
import Derived.Lib.AtoiAll
import Derived.Lib.Strings
import Derived.ProofKit
import Derived.Maps.Own
import Derived.Maps.OwnSet
import Derived.Maps.Views
import Derived.WalkKit
import Derived.Deep.LoopGhost
import Derived.Deep.Draws
import Derived.Deep.AppendLies
import Derived.Test.YtkpomcimaofkkaaDoorProg
import Derived.Laws.StructEq
import Derived.Lib.Walk
import Derived.Lib.SmallJoins
import Derived.WalkSpells
import Derived.Deep.RegionHeld3
import Derived.Deep.RegionWith
import Derived.Deep.QuietTactic
import Derived.BigQuiet
import Derived.Lib.SlicesS
import Derived.Lib.Builder
import Derived.Recover
import Derived.RegionTactic
import Derived.WalkLawsBesides
import Derived.Orders
import Derived.RowKit
namespace Go.Proofs.YtkpomcimaofkkaaDoor
set_option linter.unusedVariables false
set_option linter.unusedSimpArgs false

/-- The byte at a place of a text, 0 behind its end. -/
def bt (s : ByteArray) (i : Nat) : Nat := if h : i < s.size then (s[i]'h).toNat else 0
theorem bt_get {s : ByteArray} {i : Nat} (h : i < s.size) : (s[i]'h).toNat = bt s i := by simp [bt, h]
theorem bt_le (s : ByteArray) (i : Nat) : bt s i ≤ 255 := by
  unfold bt; split
  · rename_i h; have := (s[i]'h).toNat_lt; omega
  · omega

def isSm (c : Nat) : Bool := decide (97 ≤ c) && decide (c ≤ 122)
def isDg (c : Nat) : Bool := decide (48 ≤ c) && decide (c ≤ 57)
def isWd (c : Nat) : Bool := isSm c || isDg c
theorem isSm_iff {c : Nat} : isSm c = true ↔ 97 ≤ c ∧ c ≤ 122 := by simp [isSm]
theorem isDg_iff {c : Nat} : isDg c = true ↔ 48 ≤ c ∧ c ≤ 57 := by simp [isDg]
theorem isSm_no {c : Nat} : isSm c = false ↔ ¬ (97 ≤ c ∧ c ≤ 122) := by rw [← isSm_iff]; simp
theorem isDg_no {c : Nat} : isDg c = false ↔ ¬ (48 ≤ c ∧ c ≤ 57) := by rw [← isDg_iff]; simp

end Go.Proofs.YtkpomcimaofkkaaDoor
namespace Go.Proofs.YtkpomcimaofkkaaDoor
set_option linter.unusedVariables false
set_option linter.unusedSimpArgs false

/-- The bytes of a text from a place on. -/
def bl (s : ByteArray) : Nat → Nat → List UInt8
  | _, 0 => []
  | i, n + 1 => UInt8.ofNat (bt s i) :: bl s (i + 1) n

theorem bl_len (s : ByteArray) : ∀ n i, (bl s i n).length = n
  | 0, _ => rfl
  | n + 1, i => by simp [bl, bl_len s n (i + 1)]

theorem bl_get (s : ByteArray) : ∀ n i j, j < n → (bl s i n)[j]? = some (UInt8.ofNat (bt s (i + j)))
  | 0, _, _, h => by omega
  | n + 1, i, 0, _ => by simp [bl]
  | n + 1, i, j + 1, h => by
    have := bl_get s n (i + 1) j (by omega)
    simp only [bl, List.getElem?_cons_succ]
    rw [this, show i + 1 + j = i + (j + 1) by omega]

theorem extract_bl (s : ByteArray) (i e : Nat) (he : e ≤ s.size) : (s.extract i e).data.toList = bl s i (e - i) := by
  rw [Lib.extract_data]
  have hsz : s.data.toList.length = s.size := by simp
  apply List.ext_getElem?
  intro j
  by_cases hj : j < e - i
  · rw [bl_get s _ _ _ hj, List.getElem?_take, if_pos hj, List.getElem?_drop]
    have hlt : i + j < s.size := by omega
    have hl2 : i + j < s.data.toList.length := by omega
    rw [List.getElem?_eq_getElem hl2]
    congr 1
    have : bt s (i + j) = (s.data.toList[i + j]).toNat := by rw [← bt_get hlt]; rfl
    rw [this]
    simp
  · rw [List.getElem?_take, if_neg hj, List.getElem?_eq_none (by rw [bl_len]; omega)]

theorem toNat_bt (s : ByteArray) (i : Nat) : (UInt8.ofNat (bt s i)).toNat = bt s i := by
  have := bt_le s i
  rw [UInt8.toNat_ofNat']
  omega

end Go.Proofs.YtkpomcimaofkkaaDoor
namespace Go.Proofs.YtkpomcimaofkkaaDoor
set_option linter.unusedVariables false
set_option linter.unusedSimpArgs false

/-- The last digit. -/
def dg (v : Nat) : UInt8 := UInt8.ofNat (48 + v % 10)
theorem dg_toNat (v : Nat) : (dg v).toNat = 48 + v % 10 := by
  unfold dg; rw [UInt8.toNat_ofNat']; omega

/-- Digits ahead of those that there are. -/
def decAcc : Nat → Nat → List UInt8 → List UInt8
  | 0, _, acc => acc
  | f + 1, v, acc => if v = 0 ∧ acc ≠ [] then acc else decAcc f (v / 10) (dg v :: acc)
def dec (v : Nat) : List UInt8 := decAcc 20 v []

theorem decAcc_end (f : Nat) {acc : List UInt8} (h : acc ≠ []) : decAcc f 0 acc = acc := by
  cases f with
  | zero => rfl
  | succ f => simp [decAcc, h]

theorem decAcc_len : ∀ (f v : Nat) (acc : List UInt8), v < 10 ^ f → acc.length ≤ (decAcc f v acc).length ∧ (decAcc f v acc).length ≤ acc.length + f
  | 0, _, acc, _ => by simp [decAcc]
  | f + 1, v, acc, h => by
    unfold decAcc
    split
    · omega
    · have := decAcc_len f (v / 10) (dg v :: acc) (by rw [Nat.pow_succ] at h; omega)
      simp at this
      omega

/-- The first digit of a number that is not 0 is none. -/
theorem decAcc_head : ∀ (f v : Nat) (acc : List UInt8), v ≠ 0 → v < 10 ^ f → ∃ b r, decAcc f v acc = b :: r ∧ 49 ≤ b.toNat
  | 0, v, acc, h0, h => by simp at h; omega
  | f + 1, v, acc, h0, h => by
    unfold decAcc
    rw [if_neg (by simp [h0])]
    by_cases hd : v / 10 = 0
    · rw [hd, decAcc_end f (by simp)]
      exact ⟨_, _, rfl, by rw [dg_toNat]; omega⟩
    · exact decAcc_head f (v / 10) _ hd (by rw [Nat.pow_succ] at h; omega)

theorem dec_zero : dec 0 = [48] := by decide
theorem dec_head {v : Nat} (h0 : v ≠ 0) (h : v < 10 ^ 20) : ∃ b r, dec v = b :: r ∧ 49 ≤ b.toNat := decAcc_head 20 v [] h0 h
theorem dec_len {v : Nat} (h : v < 10 ^ 20) : 1 ≤ (dec v).length ∧ (dec v).length ≤ 20 := by
  have h1 := decAcc_len 20 v [] h
  by_cases h0 : v = 0
  · subst h0; simp [dec_zero]
  · obtain ⟨b, r, e, _⟩ := dec_head h0 h
    refine ⟨by rw [e]; simp, ?_⟩
    have : (dec v).length = (decAcc 20 v []).length := rfl
    simp at h1
    omega

/-- Bytes of a text by its list. -/
theorem bt_list {s : ByteArray} {i : Nat} {b : UInt8} (h : s.data.toList[i]? = some b) : bt s i = b.toNat := by
  have hi : i < s.data.toList.length := (List.getElem?_eq_some_iff.1 h).1
  have hi' : i < s.size := by simpa using hi
  rw [← bt_get hi']
  have : s.data.toList[i] = b := (List.getElem?_eq_some_iff.1 h).2
  rw [← this]; rfl

/-- A number's text: a minus, if it is below 0, and its digits. -/
def decimal (n : Int) : List UInt8 := if 0 ≤ n then dec n.toNat else 45 :: dec (-n).toNat

theorem extract_all (s : ByteArray) : s.extract 0 s.size = s := by
  have e := Lib.extract_data s 0 s.size
  rw [ByteArray.ext_iff, ← Array.toList_inj, e, Nat.sub_zero, List.drop_zero, List.take_of_length_le (by simp)]

end Go.Proofs.YtkpomcimaofkkaaDoor
namespace Go.Proofs.YtkpomcimaofkkaaDoor
set_option linter.unusedVariables false
set_option linter.unusedSimpArgs false

/-- The bytes from a place on, by the list. -/
theorem mem_bl {s : ByteArray} {i n : Nat} {b : UInt8} (h : b ∈ bl s i n) : ∃ j, j < n ∧ b.toNat = bt s (i + j) := by
  obtain ⟨j, hj⟩ := List.mem_iff_getElem?.1 h
  have hlt : j < n := by have := (List.getElem?_eq_some_iff.1 hj).1; rwa [bl_len] at this
  rw [bl_get s n i j hlt] at hj
  exact ⟨j, hlt, by rw [← Option.some.inj hj, toNat_bt]⟩

section
variable {s : ByteArray} {i : Nat}

end

end Go.Proofs.YtkpomcimaofkkaaDoor
namespace Go.Proofs.YtkpomcimaofkkaaDoor.Rp
open Go.RowKit

theorem hid {p : Prop} (h : p) : Hid p := h

/-- A slice of ints in memory, all of it in blocks of S. -/
def IntsIn (S : Nat → Prop) (w : World) (v : Value) (l : List Int) : Prop :=
  ∃ ao c, v = .slice ao l.length c ∧ (l.length * 8 ≤ 140737488355328 ∧ l.length ≤ c) ∧ (0 < l.length → ∃ b off, ao = some ⟨b, off, none⟩ ∧ S b ∧ ∀ j, j < l.length → w.cell? ⟨b, off + j, none⟩ = some (.int .i64 (l.getD j default)))

/-- A slice of elements of k cells, each with a property of its cells. -/
def RowsIn {α : Type} [Inhabited α] (k bytes : Nat) (R : List Value → α → Prop) (S : Nat → Prop) (w : World) (v : Value) (l : List α) : Prop :=
  ∃ ao c, v = .slice ao l.length c ∧ (l.length * bytes ≤ 140737488355328 ∧ l.length ≤ c) ∧ (0 < l.length → ∃ b off, ao = some ⟨b, off, none⟩ ∧ S b ∧ ∀ j, j < l.length → ∃ cs, cs.length = k ∧ R cs (l.getD j default) ∧ ∀ i u, cs[i]? = some u → w.cell? ⟨b, off + j * k + i, none⟩ = some u)

/-- w' holds what w held in the blocks of S. -/
def KeepsIn (S : Nat → Prop) (w w' : World) : Prop := ∀ b, S b → b < w.heap.size → w'.heap[b]? = w.heap[b]?

theorem KeepsIn.cell {S : Nat → Prop} {w w' : World} (h : KeepsIn S w w') {p : Addr} {u : Value} (hS : S p.block) (hc : w.cell? p = some u) : w'.cell? p = some u :=
  (World.cell?_of_block (w := w) (h p.block hS (World.block_lt_of_cell? _ _ hc))).trans hc

theorem IntsIn.keep {S T : Nat → Prop} {w w' : World} {v : Value} {l : List Int} (h : IntsIn S w v l) (hk : KeepsIn S w w') (hT : ∀ b, b < w.heap.size → S b → T b) : IntsIn T w' v l := by
  obtain ⟨ao, c, hv, hl, hc⟩ := h
  refine ⟨ao, c, hv, hl, fun h0 => ?_⟩
  obtain ⟨b, off, ha, hS, hj⟩ := hc h0
  exact ⟨b, off, ha, hT b (World.block_lt_of_cell? _ _ (hj 0 h0)) hS, fun j h => hk.cell (p := ⟨b, off + j, none⟩) hS (hj j h)⟩

theorem RowsIn.keep {α : Type} [Inhabited α] {k bytes : Nat} {R R' : List Value → α → Prop} {S T : Nat → Prop} {w w' : World} {v : Value} {l : List α} (h : RowsIn k bytes R S w v l) (hk0 : 0 < k) (hR : ∀ cs x, R cs x → R' cs x) (hk : KeepsIn S w w') (hT : ∀ b, b < w.heap.size → S b → T b) : RowsIn k bytes R' T w' v l := by
  obtain ⟨ao, c, hv, hl, hc⟩ := h
  refine ⟨ao, c, hv, hl, fun h0 => ?_⟩
  obtain ⟨b, off, ha, hS, hj⟩ := hc h0
  refine ⟨b, off, ha, hT b ?_ hS, fun j h => ?_⟩
  · obtain ⟨cs, hlen, _, hcs⟩ := hj 0 h0
    exact World.block_lt_of_cell? _ _ (hcs 0 cs[0] (List.getElem?_eq_getElem (by omega)))
  · obtain ⟨cs, hlen, hr, hcs⟩ := hj j h
    exact ⟨cs, hlen, hR _ _ hr, fun i u hi => hk.cell (p := ⟨b, off + j * k + i, none⟩) hS (hcs i u hi)⟩

theorem keeps_below {S : Nat → Prop} {w w' : World} (h : Below w.heap.size w w') : KeepsIn S w w' := fun b _ hb => h.block b hb
end Go.Proofs.YtkpomcimaofkkaaDoor.Rp
namespace Go.Proofs.YtkpomcimaofkkaaDoor.Rp.Tx
set_option linter.unusedVariables false
set_option linter.unusedSimpArgs false
open Go.RowKit
/-- The cells of each element of a slice of length n. -/
def RowCells {α : Type} [Inhabited α] (k : Nat) (R : List Value → α → Prop) (w : World) (ao : Option Addr) (xs : List α) (n : Nat) : Prop :=
  ∀ j, j < n → ∃ b o cs, ao = some ⟨b, o, none⟩ ∧ b < w.heap.size ∧ cs.length = k ∧ R cs (xs.getD j default) ∧ ∀ i u, cs[i]? = some u → w.cell? ⟨b, o + j * k + i, none⟩ = some u

theorem RowsIn.cells {α : Type} [Inhabited α] {k bytes : Nat} {R : List Value → α → Prop} {S : Nat → Prop} {w : World} {v : Value} {l : List α} (h : RowsIn k bytes R S w v l) (hk : 0 < k) :
    ∃ ao c, v = .slice ao l.length c ∧ (l.length * bytes ≤ 140737488355328 ∧ l.length ≤ c) ∧ RowCells k R w ao l l.length := by
  obtain ⟨ao, c, hv, hl, hc⟩ := h
  refine ⟨ao, c, hv, hl, fun j hj => ?_⟩
  obtain ⟨b, off, ha, _, hcc⟩ := hc (by omega)
  obtain ⟨cs, h1, h2, h3⟩ := hcc j hj
  exact ⟨b, off, cs, ha, World.block_lt_of_cell? _ _ (h3 0 cs[0] (List.getElem?_eq_getElem (by omega))), h1, h2, h3⟩

section
variable {α : Type} [Inhabited α] {e size : Nat} {R : (Nat → Prop) → World → List Value → α → Prop} {B : Nat} {wr w3 w4 : World} {v : Value} {n : Nat} {rows : List (List Value)} {l : List α}

end

end Go.Proofs.YtkpomcimaofkkaaDoor.Rp.Tx
namespace Go.Proofs.YtkpomcimaofkkaaDoor.Rp
set_option linter.unusedVariables false
set_option linter.unusedSimpArgs false
open Go.RowKit
open Tx (RowsIn.cells RowCells)

/-- A dependency, plain. -/
abbrev MW := Int × Int × Int × ByteArray × Int × Int × Bool × Bool
def encW (x : MW) : List Value := [.int .i64 x.1, .int .i64 x.2.1, .int .i64 x.2.2.1, .string x.2.2.2.1, .int .i64 x.2.2.2.2.1, .int .i64 x.2.2.2.2.2.1, .bool x.2.2.2.2.2.2.1, .bool x.2.2.2.2.2.2.2]
/-- An anomaly, plain: kind, txn, op, other, key, value, cycle, real, level. -/
abbrev MA := Int × Int × Int × Int × ByteArray × Int × List MW × Bool × Int
/-- A report, plain: txns, unique, anomalies, level, answer, order. -/
abbrev MR := Int × Bool × List MA × Int × Int × List Int
abbrev All (_ : Nat) : Prop := True
def WhysIn (w : World) (v : Value) (l : List MW) : Prop := RowsIn 8 64 (fun cs x => cs = encW x) All w v l
def encA (a : MA) (cv : Value) : List Value := [.int .i64 a.1, .int .i64 a.2.1, .int .i64 a.2.2.1, .int .i64 a.2.2.2.1, .string a.2.2.2.2.1, .int .i64 a.2.2.2.2.2.1, cv, .bool a.2.2.2.2.2.2.2.1, .int .i64 a.2.2.2.2.2.2.2.2]
abbrev MA.cyc (a : MA) : List MW := a.2.2.2.2.2.2.1
def AnRow (w : World) (cs : List Value) (a : MA) : Prop := ∃ cv, cs = encA a cv ∧ WhysIn w cv a.cyc
def AnsIn (w : World) (v : Value) (l : List MA) : Prop := RowsIn 9 96 (AnRow w) All w v l
def encR (r : MR) (av ov : Value) : Array Value := #[.int .i64 r.1, .bool r.2.1, av, .int .i64 r.2.2.2.1, .int .i64 r.2.2.2.2.1, ov]
def RepIn (w : World) (v : Value) (r : MR) : Prop := ∃ av ov, v = .agg (encR r av ov) ∧ AnsIn w av r.2.2.1 ∧ IntsIn All w ov r.2.2.2.2.2
theorem rows_later {α : Type} [Inhabited α] {k bytes : Nat} {R R' : List Value → α → Prop} {w w' : World} {v : Value} {l : List α} (h : RowsIn k bytes R All w v l) (hk : 0 < k) (hb : Below w.heap.size w w') (hR : ∀ cs a, R cs a → R' cs a) : RowsIn k bytes R' All w' v l := by
  obtain ⟨ao, c, hv, hl, hc⟩ := h
  refine ⟨ao, c, hv, hl, fun h0 => ?_⟩
  obtain ⟨b, off, e1, e2, hj⟩ := hc h0
  refine ⟨b, off, e1, e2, fun j hlt => ?_⟩
  obtain ⟨cs, q1, q2, q3⟩ := hj j hlt
  exact ⟨cs, q1, hR _ _ q2, fun i u hu => (hb.cell (World.block_lt_of_cell? _ _ (q3 i u hu))).trans (q3 i u hu)⟩
theorem WhysIn.later {w w' : World} {v : Value} {l : List MW} (h : WhysIn w v l) (hb : Below w.heap.size w w') : WhysIn w' v l := rows_later h (by omega) hb (fun _ _ h => h)
theorem AnsIn.later {w w' : World} {v : Value} {l : List MA} (h : AnsIn w v l) (hb : Below w.heap.size w w') : AnsIn w' v l := rows_later h (by omega) hb (fun _ _ ⟨cv, h1, h2⟩ => ⟨cv, h1, h2.later hb⟩)
theorem IntsIn.laterB {w w' : World} {v : Value} {l : List Int} (h : IntsIn All w v l) (hb : Below w.heap.size w w') : IntsIn All w' v l := by
  obtain ⟨ao, c, hv, hl, hc⟩ := h
  refine ⟨ao, c, hv, hl, fun h0 => ?_⟩
  obtain ⟨b, off, e1, e2, hj⟩ := hc h0
  exact ⟨b, off, e1, e2, fun j hlt => (hb.cell (World.block_lt_of_cell? _ _ (hj j hlt))).trans (hj j hlt)⟩
end Go.Proofs.YtkpomcimaofkkaaDoor.Rp
namespace Go.Proofs.YtkpomcimaofkkaaDoor.Rp
set_option linter.unusedVariables false
set_option linter.unusedSimpArgs false
open Go.RowKit

def wTxns : ByteArray := ⟨#[116, 120, 110, 115]⟩
def wUnique : ByteArray := ⟨#[117, 110, 105, 113, 117, 101]⟩
def wYes : ByteArray := ⟨#[121, 101, 115]⟩
def wNo : ByteArray := ⟨#[110, 111]⟩
def wAnomaly : ByteArray := ⟨#[97, 110, 111, 109, 97, 108, 121]⟩
def wLevel : ByteArray := ⟨#[108, 101, 118, 101, 108]⟩
def wAnswer : ByteArray := ⟨#[97, 110, 115, 119, 101, 114]⟩
def wReal : ByteArray := ⟨#[114, 101, 97, 108]⟩
def wPlain : ByteArray := ⟨#[112, 108, 97, 105, 110]⟩
def wNil : ByteArray := ⟨#[110, 105, 108]⟩
def wValue : ByteArray := ⟨#[118, 97, 108, 117, 101]⟩
def wCond : ByteArray := ⟨#[99, 111, 110, 100]⟩
def wSure : ByteArray := ⟨#[115, 117, 114, 101]⟩
def mOpen : ByteArray := ⟨#[40]⟩
def mClose : ByteArray := ⟨#[41]⟩
def mFrom : ByteArray := ⟨#[91]⟩
def mTo : ByteArray := ⟨#[93]⟩
/-- The code's words, each at its place. -/
def kindWs : List ByteArray := [⟨#[]⟩, ⟨#[105, 110, 116, 101, 114, 110, 97, 108]⟩, ⟨#[103, 97, 114, 98, 97, 103, 101]⟩, ⟨#[116, 119, 105, 99, 101]⟩, ⟨#[102, 111, 114, 107]⟩, ⟨#[97, 98, 111, 114, 116, 101, 100]⟩, ⟨#[109, 105, 100, 100, 108, 101]⟩, ⟨#[111, 114, 100, 101, 114]⟩, ⟨#[103, 48]⟩, ⟨#[103, 49, 99]⟩, ⟨#[115, 105, 110, 103, 108, 101]⟩, ⟨#[103, 50]⟩]
def labelWs : List ByteArray := [⟨#[]⟩, ⟨#[119, 119]⟩, ⟨#[119, 114]⟩, ⟨#[]⟩, ⟨#[114, 119]⟩, ⟨#[]⟩, ⟨#[]⟩, ⟨#[]⟩, ⟨#[114, 116]⟩]
def answerWs : List ByteArray := [⟨#[110, 111, 110, 101]⟩, ⟨#[121, 101, 115]⟩, ⟨#[110, 111]⟩, ⟨#[117, 110, 107, 110, 111, 119, 110]⟩]
def levelWs : List ByteArray := [⟨#[110, 111, 110, 101]⟩, ⟨#[112, 108, 49]⟩, ⟨#[112, 108, 50]⟩, ⟨#[112, 108, 50, 112, 108, 117, 115]⟩, ⟨#[112, 108, 51]⟩, ⟨#[115, 116, 114, 105, 99, 116]⟩]
/-- The document's. -/
def rkindWs : List ByteArray := [⟨#[105, 110, 116, 101, 114, 110, 97, 108]⟩, ⟨#[103, 97, 114, 98, 97, 103, 101]⟩, ⟨#[116, 119, 105, 99, 101]⟩, ⟨#[102, 111, 114, 107]⟩, ⟨#[97, 98, 111, 114, 116, 101, 100]⟩, ⟨#[109, 105, 100, 100, 108, 101]⟩, ⟨#[111, 114, 100, 101, 114]⟩, ⟨#[103, 48]⟩, ⟨#[103, 49, 99]⟩, ⟨#[115, 105, 110, 103, 108, 101]⟩, ⟨#[103, 50]⟩]
/-! The document's reader: the tokens left, and whether it failed. -/
end Go.Proofs.YtkpomcimaofkkaaDoor.Rp
namespace Go.Proofs.YtkpomcimaofkkaaDoor.Rp
set_option linter.unusedVariables false
set_option linter.unusedSimpArgs false
open Go.RowKit


theorem below_box (w : World) (o : Obj) : Below w.heap.size w (w.alloc o) := (Below.refl _ _).alloc (Nat.le_refl _) _

end Go.Proofs.YtkpomcimaofkkaaDoor.Rp
namespace Go.Proofs.YtkpomcimaofkkaaDoor.Rp
set_option linter.unusedVariables false
set_option linter.unusedSimpArgs false
open Go.RowKit Go.Lib

/-- Words in a block. -/
def WordsAt (w : World) (g : Nat) (ws : List ByteArray) : Prop := w.heap[g]? = some (.cells (ws.map Value.string).toArray 9)
theorem WordsAt.cell {w : World} {g : Nat} {ws : List ByteArray} (h : WordsAt w g ws) {k : Nat} (hk : k < ws.length) : w.cell? ⟨g, k, none⟩ = some (.string (ws.getD k default)) := by
  rw [Lib.cell_of_heap h k]
  simp [List.getD, hk]
theorem WordsAt.lt {w : World} {g : Nat} {ws : List ByteArray} (h : WordsAt w g ws) : g < w.heap.size := (Array.getElem?_eq_some_iff.1 h).1
theorem words_is (w : World) (ws : List ByteArray) : WordsAt (w.alloc (.cells (ws.map Value.string).toArray 9)) w.heap.size ws := heap_alloc_new w _
set_option maxHeartbeats 2000000 in
theorem kinds_is (w : World) : Calls Tryd.prog 31 #[] w fun e w' => e = .returned (.slice (some ⟨w.heap.size, 0, none⟩) 12 12) ∧ w.alloc (.cells (kindWs.map Value.string).toArray 9) = w' := by
  go_enter Tryd.func31, Tryd.ntmps31
  go_wp2_with fail
  go_ret
  exact ⟨rfl, rfl⟩
set_option maxHeartbeats 2000000 in
theorem labels_is (w : World) : Calls Tryd.prog 33 #[] w fun e w' => e = .returned (.slice (some ⟨w.heap.size, 0, none⟩) 9 9) ∧ w.alloc (.cells (labelWs.map Value.string).toArray 9) = w' := by
  go_enter Tryd.func33, Tryd.ntmps33
  go_wp2_with fail
  go_ret
  exact ⟨rfl, rfl⟩
set_option maxHeartbeats 2000000 in
theorem answers_is (w : World) : Calls Tryd.prog 26 #[] w fun e w' => e = .returned (.slice (some ⟨w.heap.size, 0, none⟩) 4 4) ∧ w.alloc (.cells (answerWs.map Value.string).toArray 9) = w' := by
  go_enter Tryd.func26, Tryd.ntmps26
  go_wp2_with fail
  go_ret
  exact ⟨rfl, rfl⟩
end Go.Proofs.YtkpomcimaofkkaaDoor.Rp
namespace Go.Proofs.YtkpomcimaofkkaaDoor.Rp
set_option linter.unusedVariables false
set_option linter.unusedSimpArgs false
open Go.RowKit Go.Lib

/-- The package's names of levels. -/
def NamesAt (w : World) : Prop := ∀ k, k < 6 → w.cell? ⟨0, k, none⟩ = some (.string (levelWs.getD k default))
theorem NamesAt.pos {w : World} (h : NamesAt w) : 0 < w.heap.size := World.block_lt_of_cell? _ _ (h 0 (by decide))
theorem NamesAt.later {w w' : World} (h : NamesAt w) (hb : Below w.heap.size w w') : NamesAt w' := fun k hk => (hb.cell (p := ⟨0, k, none⟩) h.pos).trans (h k hk)
end Go.Proofs.YtkpomcimaofkkaaDoor.Rp
namespace Go.Proofs.YtkpomcimaofkkaaDoor.Rp
set_option linter.unusedVariables false
set_option linter.unusedSimpArgs false
open Go.RowKit Go.Lib

/-- A box whole. -/
abbrev BoxW (w : World) (o : Nat) (t : TypeId) (cs : Array Value) : Prop := w.heap[o]? = some (.cells cs t (0, 0))
section
variable {w : World} {o : Nat} {t : TypeId} {cs : Array Value}
theorem BoxW.lt (h : BoxW w o t cs) : o < w.heap.size := (Array.getElem?_eq_some_iff.1 h).1
theorem BoxW.cell (h : BoxW w o t cs) (j : Nat) : w.cell? ⟨o, j, none⟩ = cs[j]? := Lib.cell_of_heap h j
theorem BoxW.later {w' : World} (h : BoxW w o t cs) (hb : Below w.heap.size w w') : BoxW w' o t cs := (hb.block o h.lt).trans h
end
theorem box_new (w : World) (cs : Array Value) (t : TypeId) : BoxW (w.alloc (.cells cs t)) w.heap.size t cs := heap_alloc_new w _
section
variable {α : Type} [Inhabited α] {e size : Nat} {R : (Nat → Prop) → World → List Value → α → Prop} {B bx : Nat} {wr w3 w4 : World} {v : Value} {n : Nat} {rows : List (List Value)} {l : List α}
end
end Go.Proofs.YtkpomcimaofkkaaDoor.Rp
namespace Go.Proofs.YtkpomcimaofkkaaDoor
set_option linter.unusedVariables false
set_option linter.unusedSimpArgs false
open Go.RowKit

section
variable {P : Program} {ops : Array Oper} {Q : Exit → Act → World → Prop} {md : Region.Mode}
/-- How many operations are still to come. -/
def leftN (ops : Array Oper) (listed : Array Bool) : Nat := ((List.range ops.size).filter fun i => !listed.getD i true).length
theorem filter_lt {α : Type} (p q : α → Bool) : ∀ (l : List α), (∀ x ∈ l, q x = true → p x = true) → (∃ x ∈ l, p x = true ∧ q x = false) → (l.filter q).length < (l.filter p).length
  | [], _, h => by obtain ⟨x, hx, _⟩ := h; cases hx
  | a :: l, h1, h2 => by
    have hle : (l.filter q).length ≤ (l.filter p).length := by
      clear h2
      induction l with
      | nil => simp
      | cons b l ih =>
        have := ih (fun x hx => h1 x (by simp at hx ⊢; rcases hx with rfl | hx <;> simp_all))
        have hb := h1 b (by simp)
        simp only [List.filter_cons]
        cases hq : q b <;> cases hp : p b <;> simp_all <;> omega
    by_cases ha : p a = true ∧ q a = false
    · simp only [List.filter_cons, ha.1, ha.2]
      simp
      omega
    · have : ∃ x ∈ l, p x = true ∧ q x = false := by
        obtain ⟨x, hx, hp⟩ := h2
        simp at hx
        rcases hx with rfl | hx
        · exact absurd hp ha
        · exact ⟨x, hx, hp⟩
      have ih := filter_lt p q l (fun x hx => h1 x (by simp [hx])) this
      simp only [List.filter_cons]
      have ha1 := h1 a (by simp)
      cases hq : q a <;> cases hp : p a <;> simp_all
theorem leftN_set {listed : Array Bool} {i : Nat} (hi : i < ops.size) (h : listed.getD i true = false) : leftN ops (listed.setIfInBounds i true) < leftN ops listed := by
  unfold leftN
  have hl : i < listed.size := by
    rcases Nat.lt_or_ge i listed.size with c | c
    · exact c
    · rw [Array.getD_eq_getD_getElem?, Array.getElem?_eq_none c] at h; cases h
  refine filter_lt _ _ _ (fun x _ hx => ?_) ⟨i, by simpa using hi, by simp [h], ?_⟩
  · simp only [Bool.not_eq_true'] at hx ⊢
    by_cases e : i = x
    · subst e
      rw [Array.getD_eq_getD_getElem?, Array.getElem?_setIfInBounds_self_of_lt hl] at hx
      cases hx
    · rwa [getD_set_ne true e] at hx
  · rw [Array.getD_eq_getD_getElem?, Array.getElem?_setIfInBounds_self_of_lt hl]
    rfl
/-- By a statement that each operation which may come carries on. -/
theorem wpAny_inv (J : Array Bool → Act → World → Prop)
    (hstep : ∀ listed a w, J listed a w → ∀ i, i ∈ Region.ready md ops listed → wpOp P ops Q i (J (listed.setIfInBounds i true)) a w)
    (hend : ∀ listed a w, J listed a w → Region.ready md ops listed = [] → Q .normal a w) :
    ∀ (fuel : Nat) (listed : Array Bool) (a : Act) (w : World), leftN ops listed ≤ fuel → J listed a w → wpAny P md ops Q fuel listed a w := by
  intro fuel
  induction fuel with
  | zero =>
    intro listed a w hf hJ
    have hr : Region.ready md ops listed = [] := by
      cases hr : Region.ready md ops listed with
      | nil => rfl
      | cons x xs =>
        have hx : x ∈ Region.ready md ops listed := by rw [hr]; simp
        rw [mem_ready] at hx
        obtain ⟨h1, o, ho, h2⟩ := hx
        have := leftN_set (ops := ops) (Array.getElem?_eq_some_iff.1 ho).1 h1
        omega
    exact ⟨hr, hend listed a w hJ hr⟩
  | succ fuel ih =>
    intro listed a w hf hJ
    refine ⟨fun hr => hend listed a w hJ hr, fun i hi => ?_⟩
    have hi' := hi
    rw [mem_ready] at hi'
    obtain ⟨h1, o, ho, h2⟩ := hi'
    have hl := leftN_set (ops := ops) (Array.getElem?_eq_some_iff.1 ho).1 h1
    exact wpOp_mono (fun a' w' hJ' => ih _ a' w' (by omega) hJ') (hstep listed a w hJ i hi)
end
/-- One value put in. -/
def upV (val : Nat → Value) (i : Nat) (v : Value) : Nat → Value := fun j => if j = i then v else val j
theorem upV_self (val : Nat → Value) (i : Nat) (v : Value) : upV val i v i = v := by simp [upV]
theorem upV_ne (val : Nat → Value) (i j : Nat) (v : Value) (h : j ≠ i) : upV val i v j = val j := by simp [upV, h]
/-- What each operation waits for stands ahead of it. -/
def aheadB (ops : Array Oper) : Bool := (List.range ops.size).all fun i => match ops[i]? with
  | none => true
  | some o => o.after.all fun e => !Region.binds .any e || decide (e.on < i)
theorem ahead_of {ops : Array Oper} (h : aheadB ops = true) {i : Nat} {o : Oper} (ho : ops[i]? = some o) (e : Edge) (he : e ∈ o.after) (hb : Region.binds .any e = true) : e.on < i := by
  unfold aheadB at h
  rw [List.all_eq_true] at h
  have h1 := h i (List.mem_range.2 (Array.getElem?_eq_some_iff.1 ho).1)
  rw [ho] at h1
  simp only [Array.all_eq_true_iff_forall_mem, Bool.or_eq_true, Bool.not_eq_true', decide_eq_true_eq] at h1
  rcases h1 e he with c | c
  · rw [hb] at c; cases c
  · exact c
theorem all_listed {ops : Array Oper} (h : aheadB ops = true) {listed : Array Bool} (hs : listed.size = ops.size) (hr : Region.ready .any ops listed = []) : ∀ i, i < ops.size → listed.getD i false = true := by
  intro i
  induction i using Nat.strongRecOn with
  | ind i ih =>
    intro hi
    cases hg : listed.getD i false with
    | true => rfl
    | false =>
      exfalso
      have ho : ops[i]? = some ops[i] := Array.getElem?_eq_getElem hi
      have hm : i ∈ Region.ready .any ops listed := by
        rw [mem_ready]
        refine ⟨?_, _, ho, fun e he hb => ?_⟩
        · have hl : i < listed.size := by omega
          rw [Array.getD_eq_getD_getElem?, Array.getElem?_eq_getElem hl] at hg ⊢
          exact hg
        · have hlt := ahead_of h ho e he hb
          exact ih e.on hlt (by omega)
      rw [hr] at hm
      cases hm
/-- A region that draws its order: R i v w: v is what operation i has yielded, seen from the world w; nothing that lay there turns. -/
theorem wp_region_inv {P : Program} {ops : Array Oper} {Q : Exit → Act → World → Prop} {id : Nat} {a0 : Act} {w0 : World} (hm : P.follows .mixedOrders = true) (hah : aheadB ops = true)
    (frame : (Nat → Value) → Act) (R : Nat → Value → World → Prop) (val0 : Nat → Value) (h0 : a0 = frame val0)
    (hstab : ∀ i v w w', R i v w → Below w.heap.size w w' → R i v w')
    (hop : ∀ i o, ops[i]? = some o → ∀ val w, Below w0.heap.size w0 w → (∀ e ∈ o.after, Region.binds .any e = true → R e.on (val e.on) w) →
      if Region.wanted o (yielded ops (frame val).tmps) then o.wp P (frame val) w (fun a' w' => ∃ v, a' = frame (upV val i v) ∧ R i v w' ∧ Below w.heap.size w w') Q
      else (frame val).put o.dst undef = frame (upV val i undef) ∧ R i undef w)
    (hend : ∀ val w, Below w0.heap.size w0 w → (∀ i, i < ops.size → R i (val i) w) → Q .normal (frame val) w) : (Code.region id ops true).wp P Q a0 w0 := by
  refine wp_region_any hm ?_
  refine wpAny_inv (fun listed a w => listed.size = ops.size ∧ ∃ val, a = frame val ∧ Below w0.heap.size w0 w ∧ ∀ i, i < ops.size → listed.getD i false = true → R i (val i) w) ?_ ?_ _ _ _ _ ?_ ?_
  · rintro listed a w ⟨hs, val, rfl, hb, hR⟩ i hi
    rw [mem_ready] at hi
    obtain ⟨h1, o, ho, h2⟩ := hi
    have hio : i < ops.size := (Array.getElem?_eq_some_iff.1 ho).1
    have key : ∀ v w', R i v w' → Below w.heap.size w w' → ((listed.setIfInBounds i true).size = ops.size ∧ ∃ val', frame (upV val i v) = frame val' ∧ Below w0.heap.size w0 w' ∧ ∀ j, j < ops.size → (listed.setIfInBounds i true).getD j false = true → R j (val' j) w') := fun v w' hv hw => by
      refine ⟨by simpa using hs, upV val i v, rfl, hb.trans (hw.mono hb.size), fun j hj hl => ?_⟩
      by_cases e : j = i
      · subst e
        rw [upV_self]
        exact hv
      · rw [upV_ne _ _ _ _ e]
        rw [getD_set_ne false (fun c => e c.symm)] at hl
        exact hstab _ _ _ _ (hR j hj hl) hw
    have hk := hop i o ho val w hb (fun e he hbd => hR e.on (by have := ahead_of hah ho e he hbd; omega) (h2 e he hbd))
    unfold wpOp
    rw [ho]
    simp only
    by_cases hw : Region.wanted o (yielded ops (frame val).tmps) = true
    · rw [if_pos hw] at hk ⊢
      exact .inl (Oper.wp_mono (fun a' w' ⟨v, e, hv, hbv⟩ => by rw [e]; exact key v w' hv hbv) hk)
    · rw [if_neg hw] at hk ⊢
      rw [hk.1]
      exact key undef w hk.2 (Below.refl _ _)
  · rintro listed a w ⟨hs, val, rfl, hb, hR⟩ hr
    exact hend val w hb (fun i hi => hR i hi (all_listed hah hs hr i hi))
  · unfold leftN
    exact Nat.le_trans (List.length_filter_le _ _) (by simp)
  · refine ⟨by simp, val0, h0, ⟨rfl, rfl, rfl, Nat.le_refl _, fun _ _ => rfl⟩, fun i hi hl => ?_⟩
    simp [Array.getD_eq_getD_getElem?, hi] at hl
/-- Each operation of a list, with its number. -/
def allOps (F : Nat → Oper → Prop) : Nat → List Oper → Prop
  | _, [] => True
  | k, o :: l => F k o ∧ allOps F (k + 1) l
theorem allOps_at {F : Nat → Oper → Prop} : ∀ (l : List Oper) (k j : Nat) (o : Oper), allOps F k l → l[j]? = some o → F (k + j) o
  | [], _, _, _, _, h => by simp at h
  | a :: l, k, 0, o, h, he => by simp at he; subst he; exact h.1
  | a :: l, k, j + 1, o, h, he => by
    have := allOps_at l (k + 1) j o h.2 (by simpa using he)
    have e : k + 1 + j = k + (j + 1) := by omega
    rwa [e] at this
/-- What is known of those that an operation waits for. -/
def depsAll (R : Nat → Value → World → Prop) (val : Nat → Value) (w : World) : List Edge → Prop
  | [] => True
  | e :: l => (Region.binds .any e = true → R e.on (val e.on) w) ∧ depsAll R val w l
theorem depsAll_of {R : Nat → Value → World → Prop} {val : Nat → Value} {w : World} : ∀ (l : List Edge), (∀ e ∈ l, Region.binds .any e = true → R e.on (val e.on) w) → depsAll R val w l
  | [], _ => trivial
  | e :: l, h => ⟨h e (by simp), depsAll_of l (fun x hx => h x (by simp [hx]))⟩
theorem depsAll_get {R : Nat → Value → World → Prop} {val : Nat → Value} {w : World} : ∀ {l : List Edge}, depsAll R val w l → ∀ j, (l.any fun e => Region.binds .any e && e.on == j) = true → R j (val j) w
  | [], _, j, h => by cases h
  | e :: l, hd, j, h => by
    simp only [List.any_cons, Bool.or_eq_true, Bool.and_eq_true, beq_iff_eq] at h
    rcases h with ⟨hb, rfl⟩ | h
    · exact hd.1 hb
    · exact depsAll_get hd.2 j (by simpa using h)
/-- What is asked of one operation. -/
def OpAsk (P : Program) (ops : Array Oper) (Q : Exit → Act → World → Prop) (w0 : World) (frame : (Nat → Value) → Act) (R : Nat → Value → World → Prop) (i : Nat) (o : Oper) : Prop :=
  ∀ val w, Below w0.heap.size w0 w → depsAll R val w o.after.toList →
      if Region.wanted o (yielded ops (frame val).tmps) then o.wp P (frame val) w (fun a' w' => ∃ v, a' = frame (upV val i v) ∧ R i v w' ∧ Below w.heap.size w w') Q
      else (frame val).put o.dst undef = frame (upV val i undef) ∧ R i undef w
/-- A region that draws its order, operation by operation. -/
theorem wp_region_ask {P : Program} {ops : Array Oper} {Q : Exit → Act → World → Prop} {id : Nat} {a0 : Act} {w0 : World} (hm : P.follows .mixedOrders = true) (hah : aheadB ops = true)
    (frame : (Nat → Value) → Act) (R : Nat → Value → World → Prop) (val0 : Nat → Value) (h0 : a0 = frame val0)
    (hstab : ∀ i v w w', R i v w → Below w.heap.size w w' → R i v w')
    (l : List Oper) (hl : ops.toList = l) (hop : allOps (OpAsk P ops Q w0 frame R) 0 l)
    (hend : ∀ val w, Below w0.heap.size w0 w → (∀ i, i < ops.size → R i (val i) w) → Q .normal (frame val) w) : (Code.region id ops true).wp P Q a0 w0 := by
  refine wp_region_inv hm hah frame R val0 h0 hstab (fun i o ho val w hb hd => ?_) hend
  have h1 := allOps_at l 0 i o hop (by rw [← hl]; simpa using ho)
  rw [Nat.zero_add] at h1
  exact h1 val w hb (depsAll_of _ (fun e he => hd e (by simpa using he)))
section
variable {P : Program} {ops : Array Oper} {Q : Exit → Act → World → Prop} {w0 : World} {frame : (Nat → Value) → Act} {R : Nat → Value → World → Prop} {i : Nat} {o : Oper}
/-- What an operation must come to. -/
def OpDoes (P : Program) (Q : Exit → Act → World → Prop) (R : Nat → Value → World → Prop) (i : Nat) (o : Oper) (A : Act) (w : World) : Prop :=
  ∀ K : Act → World → Prop, (∀ v w', R i v w' → Below w.heap.size w w' → K (A.put o.dst v) w') → o.wp P A w K Q
theorem ask_plain (hg : o.guard = none) (hput : ∀ val v, (frame val).put o.dst v = frame (upV val i v)) (h : ∀ val w, Below w0.heap.size w0 w → depsAll R val w o.after.toList → OpDoes P Q R i o (frame val) w) : OpAsk P ops Q w0 frame R i o := by
  intro val w hb hd
  rw [if_pos (by simp [Region.wanted, hg])]
  exact h val w hb hd _ (fun v w' hv hw => ⟨v, hput val v, hv, hw⟩)
/-- One that yields a value and leaves the world. -/
theorem does_value {A : Act} {w : World} {v : Value} (h : (execOp A.eval o).run P w = .ok (.value v) w) (hR : R i v w) : OpDoes P Q R i o A w := by
  intro K hK
  unfold Oper.wp
  rw [h]
  exact hK v w hR (Below.refl _ _)
/-- One that yields a value in a world that has grown. -/
theorem does_grown {A : Act} {w w' : World} {v : Value} (h : (execOp A.eval o).run P w = .ok (.value v) w') (hR : R i v w') (hb : Below w.heap.size w w') : OpDoes P Q R i o A w := by
  intro K hK
  unfold Oper.wp
  rw [h]
  exact hK v w' hR hb
/-- A call. -/
theorem does_call {A : Act} {w : World} {f : FuncId} {args : Array Value} {C : Ending → World → Prop} (h : (execOp A.eval o).run P w = .ok (.enter f args) w) (hc : Calls P f args w C) (hR : ∀ e w', C e w' → ∃ v, e = .returned v ∧ R i v w' ∧ Below w.heap.size w w') : OpDoes P Q R i o A w := by
  intro K hK
  unfold Oper.wp
  rw [h]
  refine Calls.mono hc (fun e w' he => ?_)
  obtain ⟨v, rfl, hv, hb⟩ := hR e w' he
  exact hK v w' hv hb
end
end Go.Proofs.YtkpomcimaofkkaaDoor
