/-
  The reference's text of a history, plain: it is what the code's tokens are printed as.
-/
import Derived.Test.YtlkmciegpmpbbaaDoorHPrintB
import Derived.Laws.Concat
namespace Go.Proofs.YtlkmciegpmpbbaaDoor
set_option linter.unusedVariables false
set_option linter.unusedSimpArgs false
open Go.RowKit

/-- A word of the reference's, with a blank behind it. -/
def evPre (k : Int) : List UInt8 := (evWord k).data.toList ++ [32]
def opPre (k : Int) : List UInt8 := (opWord k).data.toList ++ [32]
/-- What stands between an operation's key and its end. -/
def refMid (o : MOp) : List UInt8 :=
  if o.kind = 1 ∨ o.kind = 3 then 32 :: decimal o.value
  else if o.has = false then []
  else if o.kind = 2 then [32, 40] ++ o.list.flatMap (fun v => 32 :: decimal v) ++ [32, 41]
  else if o.nl = true then [32, 110, 105, 108]
  else 32 :: decimal o.value
def refOp (o : MOp) : List UInt8 := [91, 32] ++ opPre o.kind ++ o.key.data.toList ++ refMid o ++ [32, 93]
def refEv (e : MEv) : List UInt8 := evPre e.kind ++ decimal e.proc ++ e.ops.flatMap (fun o => 32 :: refOp o) ++ [10]
def refText (l : List MEv) : List UInt8 := l.flatMap refEv

theorem pT_word (s : ByteArray) (r : List MTok) : printL true (wordT s :: r) = 32 :: (s.data.toList ++ printL true r) := by rw [printL, if_pos (.inl rfl)]; rfl
theorem pF_word (s : ByteArray) (r : List MTok) : printL false (wordT s :: r) = s.data.toList ++ printL true r := by rw [printL, if_pos (.inl rfl)]; rfl
theorem pT_mark (b : UInt8) (r : List MTok) : printL true (markT b :: r) = 32 :: b :: printL true r := by rw [printL, if_pos (.inr rfl)]; rfl
theorem pT_num (n : Int) (r : List MTok) : printL true (numT n :: r) = 32 :: (decimal n ++ printL true r) := by rw [printL, if_neg (by simp), if_pos rfl]; rfl
theorem pT_line (r : List MTok) : printL true (lineT :: r) = 10 :: printL false r := by rw [printL, if_neg (by simp), if_neg (by simp), if_pos rfl]

theorem pT_nums : ∀ (l : List Int) (r : List MTok), printL true (l.map numT ++ r) = l.flatMap (fun v => 32 :: decimal v) ++ printL true r
  | [], r => rfl
  | n :: l, r => by
    rw [List.map_cons, List.cons_append, pT_num, pT_nums l r, List.flatMap_cons]
    simp
theorem pT_mid (o : MOp) (r : List MTok) : printL true (midT o ++ r) = refMid o ++ printL true r := by
  unfold midT refMid
  split
  · rw [List.singleton_append, pT_num]; simp
  · split
    · rfl
    · split
      · rw [List.append_assoc, List.append_assoc, List.singleton_append, pT_mark, pT_nums, List.singleton_append, pT_mark]
        simp
      · split
        · rw [List.singleton_append, pT_word]; rfl
        · rw [List.singleton_append, pT_num]; simp
theorem pT_op (o : MOp) (r : List MTok) : printL true (opT o ++ r) = 32 :: (refOp o ++ printL true r) := by
  unfold opT refOp opPre
  rw [List.append_assoc, List.append_assoc]
  show printL true (markT 91 :: wordT (opWord o.kind) :: wordT o.key :: (midT o ++ ([markT 93] ++ r))) = _
  rw [pT_mark, pT_word, pT_word, pT_mid, List.singleton_append, pT_mark]
  simp
theorem pT_ops : ∀ (xs : List MOp) (r : List MTok), printL true (xs.flatMap opT ++ r) = xs.flatMap (fun o => 32 :: refOp o) ++ printL true r
  | [], r => rfl
  | o :: xs, r => by
    rw [List.flatMap_cons, List.append_assoc, pT_op, pT_ops xs r, List.flatMap_cons]
    simp
theorem pF_ev (e : MEv) (r : List MTok) : printL false (evT e ++ r) = refEv e ++ printL false r := by
  unfold evT refEv evPre
  rw [List.append_assoc, List.append_assoc]
  show printL false (wordT (evWord e.kind) :: numT e.proc :: (e.ops.flatMap opT ++ ([lineT] ++ r))) = _
  rw [pF_word, pT_num, pT_ops, List.singleton_append, pT_line]
  simp
/-- What the code prints is what the reference's says. -/
theorem print_ref : ∀ (l : List MEv), printL false (toksOf l) = refText l
  | [] => rfl
  | e :: l => by
    unfold toksOf refText
    rw [List.flatMap_cons, List.flatMap_cons, pF_ev]
    have := print_ref l
    unfold toksOf refText at this
    rw [this]

/-- Two texts joined. -/
theorem cat (a b : ByteArray) (h : a.size + b.size ≤ 9223372036854775807) : ∃ c : ByteArray, Hid (c.data.toList = a.data.toList ++ b.data.toList) ∧ c.size = a.size + b.size ∧ ∀ wx, (Op.stringOp .add a b).run Tryd.prog wx = .ok (.string c) wx :=
  ⟨a ++ b, by show (a ++ b).data.toList = _; simp [ByteArray.data_append], ByteArray.size_append, fun wx => run_string_add_sum wx _ _ h⟩
theorem dec_text {n : Int} {s : ByteArray} (hn : inI n) (h : s.data.toList = decimal n) : s.size ≤ 21 := by
  have e : s.size = s.data.toList.length := by simp
  rw [e, h]
  unfold inI at hn
  unfold decimal
  split
  · have := (dec_len (v := n.toNat) (by omega)).2; omega
  · have := (dec_len (v := (-n).toNat) (by omega)).2; simp; omega

end Go.Proofs.YtlkmciegpmpbbaaDoor
