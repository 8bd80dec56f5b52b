/-
  A state of lists and registers, plain: the writes that were done, one behind the other.
-/
import Derived.Test.YtjeheknhpfkaiaaDoorData
namespace Go.Proofs.YtjeheknhpfkaiaaDoor
set_option linter.unusedVariables false
set_option linter.unusedSimpArgs false

/-- An operation writes. -/
def wrB (o : MOp) : Bool := decide (o.kind = 1 ∨ o.kind = 3)
/-- An append to a list, a write of a register. -/
def apB (k : ByteArray) (o : MOp) : Bool := decide (o.kind = 1 ∧ o.key = k)
def rgB (k : ByteArray) (o : MOp) : Bool := decide (o.kind = 3 ∧ o.key = k)
/-- A list, a register. -/
def lstM (L : List MOp) (k : ByteArray) : List Int := (L.filter (apB k)).map MOp.value
def regM (L : List MOp) (k : ByteArray) : Option Int := (L.reverse.find? (rgB k)).map MOp.value
theorem lst_snoc (L : List MOp) (o : MOp) (k : ByteArray) : lstM (L ++ [o]) k = if o.kind = 1 ∧ o.key = k then lstM L k ++ [o.value] else lstM L k := by
  unfold lstM apB
  rw [List.filter_append, List.map_append]
  by_cases h : o.kind = 1 ∧ o.key = k
  · simp [h]
  · simp [h]
theorem reg_snoc (L : List MOp) (o : MOp) (k : ByteArray) : regM (L ++ [o]) k = if o.kind = 3 ∧ o.key = k then some o.value else regM L k := by
  unfold regM rgB
  rw [List.reverse_append]
  by_cases h : o.kind = 3 ∧ o.key = k
  · simp [h]
  · simp [h]
theorem lst_len (L : List MOp) (k : ByteArray) : (lstM L k).length ≤ L.length := by
  unfold lstM
  rw [List.length_map]
  exact List.length_filter_le _ _
/-- The register's two cells. -/
def rgV (r : Option Int) : Int := r.getD 0
/-- An operation reads what there is, or nothing. -/
def gets (r : Option Int) (o : MOp) : Bool := (r.isSome != o.nl) && (o.nl || rgV r == o.value)
/-- Two lists are the same. -/
def sameB (xs ys : List Int) : Bool := decide (xs = ys)
def rightM (L : List MOp) (o : MOp) : Bool := !o.has || (if o.kind = 2 then sameB o.list (lstM L o.key) else if o.kind = 4 then gets (regM L o.key) o else true)
/-- What was written behind i operations. -/
def stM (L l : List MOp) (i : Nat) : List MOp := L ++ (l.take i).filter wrB
theorem st_zero (L l : List MOp) : stM L l 0 = L := by simp [stM]
theorem st_next (L l : List MOp) (i : Nat) (h : i < l.length) : stM L l (i + 1) = if wrB (l.getD i default) = true then stM L l i ++ [l.getD i default] else stM L l i := by
  unfold stM
  have e : l.take (i + 1) = l.take i ++ [l.getD i default] := by
    rw [List.take_succ_eq_append_getElem h]
    simp [List.getD, List.getElem?_eq_getElem h]
  rw [e, List.filter_append, ← List.append_assoc]
  by_cases h : wrB (l.getD i default) = true
  · simp only [List.filter_cons, h, if_true, List.filter_nil]
  · simp only [List.filter_cons, h, if_false, List.filter_nil, List.append_nil, Bool.false_eq_true]
theorem st_len (L l : List MOp) (i : Nat) : (stM L l i).length ≤ L.length + l.length := by
  unfold stM
  rw [List.length_append]
  have h1 := List.length_filter_le wrB (l.take i)
  have h2 := List.length_take_le i l
  have h3 : (l.take i).length ≤ l.length := List.length_take_le' _ _
  omega
/-- All operations apply. -/
def okM (L l : List MOp) (blind : Bool) : Prop := ∀ i, i < l.length → blind = true ∨ rightM (stM L l i) (l.getD i default) = true
end Go.Proofs.YtjeheknhpfkaiaaDoor
