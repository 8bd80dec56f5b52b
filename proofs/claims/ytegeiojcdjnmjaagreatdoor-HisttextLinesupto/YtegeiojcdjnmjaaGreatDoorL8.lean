/-
  Plain data of histories, when two are the same, and how they lie in memory.
  A history's text, read: the document's reader, plain (what is left of the tokens, and the first fault).
  The code's reader of a history's text, plain, and that it answers as the document's.
-/
import Derived.Test.YtegeiojcdjnmjaaGreatDoorL1
import Derived.Test.YtegeiojcdjnmjaaGreatDoorL3
import Derived.Deep.LoopGhost
import Derived.Deep.Draws
import Derived.Test.YtegeiojcdjnmjaaGreatDoorL7
namespace Go.Proofs.YtegeiojcdjnmjaaGreatDoor
set_option linter.unusedVariables false
set_option linter.unusedSimpArgs false
open Go.RowKit


/-- An operation, plain: its kind, key, value, list, and whether it has one, whether that is nil. -/
abbrev MOp := Int × ByteArray × Int × List Int × Bool × Bool
abbrev MOp.kind (o : MOp) : Int := o.1
abbrev MOp.key (o : MOp) : ByteArray := o.2.1
abbrev MOp.value (o : MOp) : Int := o.2.2.1
abbrev MOp.list (o : MOp) : List Int := o.2.2.2.1
abbrev MOp.has (o : MOp) : Bool := o.2.2.2.2.1
abbrev MOp.nl (o : MOp) : Bool := o.2.2.2.2.2

/-- An event, plain: its kind, process and operations. -/
abbrev MEv := Int × Int × List MOp
abbrev MEv.kind (e : MEv) : Int := e.1
abbrev MEv.proc (e : MEv) : Int := e.2.1
abbrev MEv.ops (e : MEv) : List MOp := e.2.2

def intsEq (xs ys : List Int) : Bool := allEq (fun x y => x == y) xs ys
def opEq (x y : MOp) : Bool := x.kind == y.kind && (x.key.toList == y.key.toList && (x.value == y.value && (x.has == y.has && (x.nl == y.nl && intsEq x.list y.list))))
def opsEq (xs ys : List MOp) : Bool := allEq opEq xs ys
def evEq (x y : MEv) : Bool := x.kind == y.kind && (x.proc == y.proc && opsEq x.ops y.ops)
def evsEq (xs ys : List MEv) : Bool := allEq evEq xs ys

theorem intsEq_refl (xs : List Int) : intsEq xs xs = true := allEq_refl _ (by simp) xs
theorem intsEq_symm (xs ys : List Int) : intsEq xs ys = intsEq ys xs := allEq_symm _ (fun x y => by rw [Bool.eq_iff_iff, beq_iff_eq, beq_iff_eq]; exact eq_comm) xs ys
theorem opEq_refl (x : MOp) : opEq x x = true := by simp [opEq, intsEq_refl]
theorem beq_sw {α : Type} [BEq α] [LawfulBEq α] (a b : α) : (a == b) = (b == a) := by rw [Bool.eq_iff_iff, beq_iff_eq, beq_iff_eq]; exact eq_comm
theorem opEq_symm (x y : MOp) : opEq x y = opEq y x := by
  unfold opEq; rw [beq_sw x.kind, beq_sw x.key.toList, beq_sw x.value, beq_sw x.has, beq_sw x.nl, intsEq_symm]
theorem evEq_refl (x : MEv) : evEq x x = true := by simp [evEq, opsEq, allEq_refl _ opEq_refl]
theorem evEq_symm (x y : MEv) : evEq x y = evEq y x := by
  unfold evEq opsEq; rw [beq_sw x.kind, beq_sw x.proc, allEq_symm _ opEq_symm]

/-- A slice of ints in memory, all of it in blocks of S. -/
def IntsIn (S : Nat → Prop) (w : World) (v : Value) (l : List Int) : Prop :=
  ∃ ao c, v = .slice ao l.length c ∧ l.length * 8 ≤ 140737488355328 ∧ (0 < l.length → ∃ b off, ao = some ⟨b, off, none⟩ ∧ S b ∧ ∀ j, j < l.length → w.cell? ⟨b, off + j, none⟩ = some (.int .i64 (l.getD j default)))

/-- The six cells of an operation. -/
def OpRow (S : Nat → Prop) (w : World) (cs : List Value) (o : MOp) : Prop :=
  ∃ lv, cs = [.int .i64 o.kind, .string o.key, .int .i64 o.value, lv, .bool o.has, .bool o.nl] ∧ IntsIn S w lv o.list

def OpsIn (S : Nat → Prop) (w : World) (v : Value) (l : List MOp) : Prop := RowsIn 6 64 (OpRow S w) S w v l
def EvRow (S : Nat → Prop) (w : World) (cs : List Value) (e : MEv) : Prop :=
  ∃ ov, cs = [.int .i64 e.kind, .int .i64 e.proc, ov] ∧ OpsIn S w ov e.ops
def EvsIn (S : Nat → Prop) (w : World) (v : Value) (l : List MEv) : Prop := RowsIn 3 40 (EvRow S w) S w v l

theorem IntsIn.keep {S T : Nat → Prop} {w w' : World} {v : Value} {l : List Int} (h : IntsIn S w v l) (hk : KeepsIn S w w') (hT : ∀ b, b < w.heap.size → S b → T b) : IntsIn T w' v l := by
  obtain ⟨ao, c, hv, hl, hc⟩ := h
  refine ⟨ao, c, hv, hl, fun h0 => ?_⟩
  obtain ⟨b, off, ha, hS, hj⟩ := hc h0
  exact ⟨b, off, ha, hT b (World.block_lt_of_cell? _ _ (hj 0 h0)) hS, fun j h => hk.cell (p := ⟨b, off + j, none⟩) hS (hj j h)⟩

theorem OpRow.keep {S T : Nat → Prop} {w w' : World} {cs : List Value} {o : MOp} (h : OpRow S w cs o) (hk : KeepsIn S w w') (hT : ∀ b, b < w.heap.size → S b → T b) : OpRow T w' cs o := by
  obtain ⟨lv, hcs, hl⟩ := h
  exact ⟨lv, hcs, hl.keep hk hT⟩

theorem OpsIn.keep {S T : Nat → Prop} {w w' : World} {v : Value} {l : List MOp} (h : OpsIn S w v l) (hk : KeepsIn S w w') (hT : ∀ b, b < w.heap.size → S b → T b) : OpsIn T w' v l :=
  RowsIn.keep h (by omega) (fun _ _ hr => OpRow.keep hr hk hT) hk hT

theorem EvRow.keep {S T : Nat → Prop} {w w' : World} {cs : List Value} {o : MEv} (h : EvRow S w cs o) (hk : KeepsIn S w w') (hT : ∀ b, b < w.heap.size → S b → T b) : EvRow T w' cs o := by
  obtain ⟨lv, hcs, hl⟩ := h
  exact ⟨lv, hcs, hl.keep hk hT⟩

theorem EvsIn.keep {S T : Nat → Prop} {w w' : World} {v : Value} {l : List MEv} (h : EvsIn S w v l) (hk : KeepsIn S w w') (hT : ∀ b, b < w.heap.size → S b → T b) : EvsIn T w' v l :=
  RowsIn.keep h (by omega) (fun _ _ hr => EvRow.keep hr hk hT) hk hT

theorem IntsIn.below {w w' : World} {v : Value} {l : List Int} (h : IntsIn Any w v l) (hb : Below w.heap.size w w') : IntsIn Any w' v l := h.keep (keeps_below hb) (fun _ _ _ => trivial)
theorem OpsIn.below {w w' : World} {v : Value} {l : List MOp} (h : OpsIn Any w v l) (hb : Below w.heap.size w w') : OpsIn Any w' v l := h.keep (keeps_below hb) (fun _ _ _ => trivial)
theorem EvsIn.below {w w' : World} {v : Value} {l : List MEv} (h : EvsIn Any w v l) (hb : Below w.heap.size w w') : EvsIn Any w' v l := h.keep (keeps_below hb) (fun _ _ _ => trivial)

end Go.Proofs.YtegeiojcdjnmjaaGreatDoor
namespace Go.Proofs.YtegeiojcdjnmjaaGreatDoor
set_option linter.unusedVariables false
set_option linter.unusedSimpArgs false
open Go.RowKit

/-- Tokens that are left, and the first fault: its place and number. -/
abbrev Rd := List MTok × Option (Int × Int)
def nextAt (en : Int) : List MTok → Int
  | [] => en
  | t :: _ => t.2.1
def rFail (en why : Int) (r : Rd) : Rd := match r.2 with
  | some _ => r
  | none => (r.1, some (nextAt en r.1, why))
def tokIs (t : MTok) (kind : Int) (text : ByteArray) : Bool := t.1 == kind && (text.toList.isEmpty || t.2.2.1.toList == text.toList)
def rIs (r : Rd) (kind : Int) (text : ByteArray) : Bool := match r with
  | (t :: _, none) => tokIs t kind text
  | _ => false
abbrev noTok : MTok := (0, 0, ByteArray.empty, 0)
def rWant (en : Int) (r : Rd) (kind : Int) (text : ByteArray) : MTok × Rd := match r with
  | (t :: l, none) => if tokIs t kind text then (t, (l, none)) else (noTok, rFail en 20 r)
  | _ => (noTok, rFail en 20 r)
/-- A key: what is taken, and what is left. -/
def rKey (en : Int) (r : Rd) : ByteArray × Rd :=
  let r1 := if rIs r 1 ⟨#[]⟩ && decide (6 < (r.1.headD noTok).2.2.1.size) then rFail en 20 r else r
  let p := rWant en r1 1 ⟨#[]⟩
  (p.1.2.2.1, p.2)
/-- One of some words: its place among them, from k + 1 on, and what is left. -/
def rWordFrom (en : Int) (r : Rd) : Nat → List ByteArray → Int × Rd
  | _, [] => (0, rFail en 20 r)
  | k, x :: xs => if rIs r 1 x then ((k : Int) + 1, (rWant en r 1 x).2) else rWordFrom en r (k + 1) xs
abbrev rOpWords : List ByteArray := [⟨#[97, 112, 112, 101, 110, 100]⟩, ⟨#[114, 101, 97, 100]⟩, ⟨#[119, 114, 105, 116, 101]⟩, ⟨#[103, 101, 116]⟩]
abbrev rEvWords : List ByteArray := [⟨#[105, 110, 118, 111, 107, 101]⟩, ⟨#[111, 107]⟩, ⟨#[102, 97, 105, 108]⟩, ⟨#[105, 110, 102, 111]⟩]
/-- The numbers of a list: what is taken behind acc, and what is left; the 41st is a fault. -/
def rList : List MTok → List Int → List Int × Rd
  | [], acc => (acc, ([], none))
  | t :: l, acc => if tokIs t 2 ⟨#[]⟩ then (if acc.length = 40 then (acc ++ [0], (t :: l, some (t.2.1, 4))) else rList l (acc ++ [t.2.2.2])) else (acc, (t :: l, none))
/-- What follows an operation's key. -/
def rMid (en k : Int) (s : ByteArray) (r : Rd) : MOp × Rd :=
  if k = 1 ∨ k = 3 then ((k, s, (rWant en r 2 ⟨#[]⟩).1.2.2.2, [], false, false), (rWant en r 2 ⟨#[]⟩).2)
  else if k = 4 then
    (if rIs r 1 ⟨#[110, 105, 108]⟩ then ((k, s, 0, [], true, true), (rWant en r 1 ⟨#[110, 105, 108]⟩).2)
     else if rIs r 2 ⟨#[]⟩ then ((k, s, (rWant en r 2 ⟨#[]⟩).1.2.2.2, [], true, false), (rWant en r 2 ⟨#[]⟩).2)
     else ((k, s, 0, [], false, false), r))
  else if k = 2 then
    (if rIs r 3 ⟨#[40]⟩ then ((k, s, 0, (rList (rWant en r 3 ⟨#[40]⟩).2.1 []).1, true, false), (rWant en (rList (rWant en r 3 ⟨#[40]⟩).2.1 []).2 3 ⟨#[41]⟩).2)
     else ((k, s, 0, [], false, false), r))
  else ((k, s, 0, [], false, false), r)
/-- An operation: what is taken, and what is left. -/
def rOp (en : Int) (r : Rd) : MOp × Rd :=
  let r1 := (rWant en r 3 ⟨#[91]⟩).2
  let p2 := rWordFrom en r1 0 rOpWords
  let p3 := rKey en p2.2
  let p4 := rMid en p2.1 p3.1 p3.2
  (p4.1, (rWant en p4.2 3 ⟨#[93]⟩).2)
/-- A process. -/
def rProc (en : Int) (r : Rd) : Int × Rd :=
  let r1 := if rIs r 2 ⟨#[]⟩ && (decide ((r.1.headD noTok).2.2.2 < 0) || decide (99 < (r.1.headD noTok).2.2.2)) then rFail en 20 r else r
  let p := rWant en r1 2 ⟨#[]⟩
  (p.1.2.2.2, p.2)
/-- The operations behind the first; the ninth is a fault. -/
def rOps (en : Int) : Nat → Rd → List MOp → List MOp × Rd
  | 0, r, acc => (acc, r)
  | f + 1, r, acc => if rIs r 3 ⟨#[91]⟩ then
      rOps en f (rOp en (if acc.length = 8 then rFail en 4 r else r)).2 (acc ++ [(rOp en (if acc.length = 8 then rFail en 4 r else r)).1])
    else (acc, r)
/-- An event's end. -/
def rEnd (en : Int) (r : Rd) : Rd := if r.1 = [] then r else (rWant en r 4 ⟨#[]⟩).2
/-- An event. -/
def rEv (en : Int) (r : Rd) : MEv × Rd :=
  let p1 := rWordFrom en r 0 rEvWords
  let p2 := rProc en p1.2
  let p3 := rOp en p2.2
  let p4 := rOps en 10 p3.2 [p3.1]
  ((p1.1, p2.1, p4.1), rEnd en p4.2)
def rSkip : List MTok → List MTok
  | [] => []
  | t :: l => if t.1 = 4 then rSkip l else t :: l
def rNext {α β : Type} (q : α × Rd) (k : α → List MTok → Except (Int × Int) β) : Except (Int × Int) β := match q.2.2 with
  | some e => .error e
  | none => k q.1 q.2.1
/-- A history: the events behind those that there are, or the first fault. -/
def rHist (en : Int) : Nat → List MTok → List MEv → Except (Int × Int) (List MEv)
  | 0, _, out => .ok out
  | f + 1, l, out =>
    if rSkip l = [] then .ok out
    else rNext (rEv en (if out.length = 300 then rFail en 4 (rSkip l, none) else (rSkip l, none))) fun x l' => rHist en f l' (out ++ [x])

/-! What a fault leaves as it is. -/
theorem rFail_st {en why : Int} {l : List MTok} {e : Int × Int} : rFail en why (l, some e) = (l, some e) := rfl
theorem rIs_st {l : List MTok} {e : Int × Int} {k : Int} {x : ByteArray} : rIs (l, some e) k x = false := by cases l <;> rfl
theorem rWant_st {en : Int} {l : List MTok} {e : Int × Int} {k : Int} {x : ByteArray} : rWant en (l, some e) k x = (noTok, (l, some e)) := by cases l <;> rfl
theorem rKey_st {en : Int} {l : List MTok} {e : Int × Int} : rKey en (l, some e) = (ByteArray.empty, (l, some e)) := by
  unfold rKey
  rw [rIs_st]
  simp [rWant_st]
theorem rProc_st {en : Int} {l : List MTok} {e : Int × Int} : rProc en (l, some e) = (0, (l, some e)) := by
  unfold rProc
  rw [rIs_st]
  simp [rWant_st]
theorem rWord_st {en : Int} {l : List MTok} {e : Int × Int} : ∀ (ws : List ByteArray) (k : Nat), rWordFrom en (l, some e) k ws = (0, (l, some e))
  | [], k => rfl
  | x :: xs, k => by
    unfold rWordFrom
    rw [rIs_st]
    exact rWord_st xs (k + 1)
theorem rMid_st {en k : Int} {s : ByteArray} {l : List MTok} {e : Int × Int} : (rMid en k s (l, some e)).2 = (l, some e) := by
  unfold rMid
  split
  · simp [rWant_st]
  · split
    · simp [rIs_st]
    · split
      · simp [rIs_st]
      · rfl
theorem rOp_st {en : Int} {l : List MTok} {e : Int × Int} : (rOp en (l, some e)).2 = (l, some e) := by
  unfold rOp
  simp only [rWant_st, rWord_st, rKey_st, rMid_st]
theorem rOps_st {en : Int} {l : List MTok} {e : Int × Int} : ∀ (f : Nat) (acc : List MOp), rOps en f (l, some e) acc = (acc, (l, some e))
  | 0, acc => rfl
  | f + 1, acc => by
    unfold rOps
    rw [rIs_st]
    rfl
theorem rEnd_st {en : Int} {l : List MTok} {e : Int × Int} : rEnd en (l, some e) = (l, some e) := by
  unfold rEnd
  split
  · rfl
  · rw [rWant_st]
theorem rEv_st {en : Int} {l : List MTok} {e : Int × Int} : (rEv en (l, some e)).2 = (l, some e) := by
  unfold rEv
  have h := @rOp_st en l e
  simp only [rWord_st, rProc_st]
  generalize rOp en (l, some e) = q at h ⊢
  obtain ⟨q1, q2⟩ := q
  simp only at h
  subst h
  simp only [rOps_st, rEnd_st]
end Go.Proofs.YtegeiojcdjnmjaaGreatDoor
namespace Go.Proofs.YtegeiojcdjnmjaaGreatDoor
set_option linter.unusedVariables false
set_option linter.unusedSimpArgs false
open Go.RowKit

/-- A part of a text: what it is and the tokens behind it, or the fault. -/
abbrev Ps (α : Type) := Except (Int × Int) (α × List MTok)
def andP {α β : Type} (p : Ps α) (f : α → List MTok → Ps β) : Ps β := match p with
  | .error e => .error e
  | .ok z => f z.1 z.2
def pFail {α : Type} (en why : Int) (l : List MTok) : Ps α := .error (nextAt en l, why)
def seesP (l : List MTok) (k : Int) (x : ByteArray) : Bool := match l with
  | [] => false
  | t :: _ => t.1 == k && t.2.2.1.toList == x.toList
def pMark (en : Int) (x : ByteArray) (l : List MTok) : Ps Unit := if seesP l 3 x then .ok ((), l.tail) else pFail en 20 l
def pNum (en : Int) : List MTok → Ps Int
  | [] => pFail en 20 []
  | t :: l => if t.1 = 2 then .ok (t.2.2.2, l) else pFail en 20 (t :: l)
def pProc (en : Int) : List MTok → Ps Int
  | [] => pFail en 20 []
  | t :: l => if t.1 = 2 ∧ 0 ≤ t.2.2.2 ∧ t.2.2.2 ≤ 99 then .ok (t.2.2.2, l) else pFail en 20 (t :: l)
def pKey (en : Int) : List MTok → Ps ByteArray
  | [] => pFail en 20 []
  | t :: l => if t.1 = 1 ∧ keyOk t.2.2.1 = true then .ok (t.2.2.1, l) else pFail en 20 (t :: l)
def pKind (en : Int) (l : List MTok) : Nat → List ByteArray → Ps Int
  | _, [] => pFail en 20 l
  | k, x :: xs => if seesP l 1 x then .ok ((k : Int), l.tail) else pKind en l (k + 1) xs
def pNums (en : Int) : List MTok → List Int → Ps (List Int)
  | [], acc => .ok (acc, [])
  | t :: l, acc => if t.1 = 2 then (if acc.length = 40 then pFail en 4 (t :: l) else pNums en l (acc ++ [t.2.2.2])) else .ok (acc, t :: l)
def pList (en : Int) (l : List MTok) : Ps (List Int) :=
  andP (pMark en ⟨#[40]⟩ l) fun _ l1 => andP (pNums en l1 []) fun xs l2 => andP (pMark en ⟨#[41]⟩ l2) fun _ l3 => .ok (xs, l3)
def pMid (en k : Int) (s : ByteArray) (l : List MTok) : Ps MOp :=
  if k = 1 ∨ k = 3 then andP (pNum en l) fun x l1 => .ok ((k, s, x, [], false, false), l1)
  else if k = 4 then
    (if seesP l 1 ⟨#[110, 105, 108]⟩ then .ok ((k, s, 0, [], true, true), l.tail)
     else match l with
      | [] => .ok ((k, s, 0, [], false, false), l)
      | t :: r => if t.1 = 2 then .ok ((k, s, t.2.2.2, [], true, false), r) else .ok ((k, s, 0, [], false, false), l))
  else if k = 2 then
    (if seesP l 3 ⟨#[40]⟩ then andP (pList en l) fun xs l1 => .ok ((k, s, 0, xs, true, false), l1)
     else .ok ((k, s, 0, [], false, false), l))
  else .ok ((k, s, 0, [], false, false), l)
abbrev pOpWords : List ByteArray := ⟨#[]⟩ :: rOpWords
abbrev pEvWords : List ByteArray := ⟨#[]⟩ :: rEvWords
def pOp (en : Int) (l : List MTok) : Ps MOp :=
  andP (pMark en ⟨#[91]⟩ l) fun _ l1 => andP (pKind en l1 0 pOpWords) fun k l2 => andP (pKey en l2) fun s l3 => andP (pMid en k s l3) fun o l4 => andP (pMark en ⟨#[93]⟩ l4) fun _ l5 => .ok (o, l5)
def pOps (en : Int) : Nat → List MTok → List MOp → Ps (List MOp)
  | 0, l, acc => .ok (acc, l)
  | f + 1, l, acc => if seesP l 3 ⟨#[91]⟩ then (if acc.length = 8 then pFail en 4 l else andP (pOp en l) fun o l1 => pOps en f l1 (acc ++ [o])) else .ok (acc, l)
def pEnd (en : Int) : List MTok → Ps Unit
  | [] => .ok ((), [])
  | t :: l => if t.1 = 4 then .ok ((), t :: l) else pFail en 20 (t :: l)
def pEvB (en k : Int) (l1 : List MTok) : Ps MEv := andP (pProc en l1) fun p l2 => andP (pOp en l2) fun o l3 => andP (pOps en 10 l3 [o]) fun os l4 => .ok ((k, p, os), l4)
def pEvA (en : Int) (l : List MTok) : Ps MEv := andP (pKind en l 0 pEvWords) fun k l1 => pEvB en k l1
def pEv (en : Int) (l : List MTok) : Ps MEv := andP (pEvA en l) fun e l4 => andP (pEnd en l4) fun _ l5 => .ok (e, l5)
def pHist (en : Int) : Nat → List MTok → List MEv → Except (Int × Int) (List MEv)
  | 0, _, out => .ok out
  | f + 1, l, out => match l with
    | [] => .ok out
    | t :: r => if t.1 = 4 then pHist en f r out
      else if out.length = 300 then .error (t.2.1, 4)
      else match pEv en (t :: r) with
        | .error e => .error e
        | .ok z => pHist en f z.2 (out ++ [z.1])

/-! They answer alike. -/
def Sim {α : Type} (l : List MTok) (p : Ps α) (q : α × Rd) : Prop := match p with
  | .ok z => q = (z.1, (z.2, none)) ∧ z.2 <:+ l
  | .error e => q.2.2 = some e
theorem Sim.bind {α β : Type} {l : List MTok} {p : Ps α} {q : α × Rd} (f : α → List MTok → Ps β) (g : α → Rd → β × Rd) (h : Sim l p q) (hf : ∀ x l', l' <:+ l → Sim l' (f x l') (g x (l', none)))
    (hg : ∀ x r e, (g x (r, some e)).2.2 = some e) : Sim l (andP p f) (g q.1 q.2) := by
  cases p with
  | error e =>
    obtain ⟨q1, q2, q3⟩ := q
    simp only [Sim] at h
    subst h
    exact hg q1 q2 e
  | ok z =>
    obtain ⟨x, l'⟩ := z
    obtain ⟨h1, h2⟩ := h
    subst h1
    have hh := hf x l' h2
    show Sim l (f x l') (g x (l', none))
    revert hh
    generalize f x l' = pf
    intro hh
    cases pf with
    | error e => exact hh
    | ok z => exact ⟨hh.1, hh.2.trans h2⟩
/-- The tokens as scanning makes them, as far as it is asked for. -/
def Wds (l : List MTok) : Prop := ∀ t ∈ l, t.1 = 1 → isWordB t.2.2.1 = true
theorem Wds.suf {l l' : List MTok} (h : Wds l) (hs : l' <:+ l) : Wds l' := fun t ht => h t (hs.subset ht)
theorem tok_none {t : MTok} {k : Int} : tokIs t k ⟨#[]⟩ = (t.1 == k) := by
  unfold tokIs
  have : (ByteArray.toList ⟨#[]⟩).isEmpty = true := by decide +kernel
  rw [this]; simp
theorem tok_some {t : MTok} {k : Int} {x : ByteArray} (hx : x.toList.isEmpty = false) : tokIs t k x = (t.1 == k && t.2.2.1.toList == x.toList) := by
  unfold tokIs
  rw [hx]; simp
theorem rIs_sees {l : List MTok} {k : Int} {x : ByteArray} (hx : x.toList.isEmpty = false) : rIs (l, none) k x = seesP l k x := by
  cases l with
  | nil => rfl
  | cons t r => exact tok_some hx
theorem want_sees {en : Int} {l : List MTok} {k : Int} {x : ByteArray} (hx : x.toList.isEmpty = false) (h : seesP l k x = true) : (rWant en (l, none) k x).2 = (l.tail, none) := by
  cases l with
  | nil => cases h
  | cons t r =>
    unfold rWant
    have : tokIs t k x = true := by rw [tok_some hx]; exact h
    simp [this]
theorem want_not {en : Int} {l : List MTok} {k : Int} {x : ByteArray} (hx : x.toList.isEmpty = false) (h : seesP l k x = false) : (rWant en (l, none) k x).2 = (l, some (nextAt en l, 20)) := by
  cases l with
  | nil => rfl
  | cons t r =>
    unfold rWant
    have : tokIs t k x = false := by rw [tok_some hx]; exact h
    simp [this, rFail]
theorem sim_mark {en : Int} {x : ByteArray} {l : List MTok} (hx : x.toList.isEmpty = false) : Sim l (pMark en x l) ((), (rWant en (l, none) 3 x).2) := by
  unfold pMark
  cases h : seesP l 3 x with
  | true => exact ⟨by rw [want_sees hx h], List.tail_suffix l⟩
  | false => show (rWant en (l, none) 3 x).2.2 = _; rw [want_not hx h]
theorem sim_num {en : Int} {l : List MTok} : Sim l (pNum en l) ((rWant en (l, none) 2 ⟨#[]⟩).1.2.2.2, (rWant en (l, none) 2 ⟨#[]⟩).2) := by
  cases l with
  | nil => rfl
  | cons t r =>
    unfold pNum rWant
    by_cases h : t.1 = 2
    · simp only [tok_none, h]; exact ⟨rfl, List.suffix_cons _ _⟩
    · have : (t.1 == 2) = false := by simpa using h
      simp only [tok_none, this, if_neg h]; rfl
theorem sim_of {α : Type} {l : List MTok} {p : Ps α} {q : α × Rd} {x : α} {l' : List MTok} (hp : p = .ok (x, l')) (hq : q = (x, (l', none))) (hs : l' <:+ l) : Sim l p q := by
  subst hp; exact ⟨hq, hs⟩
theorem sim_bad {α : Type} {l : List MTok} {p : Ps α} {q : α × Rd} {e : Int × Int} (hp : p = .error e) (hq : q.2.2 = some e) : Sim l p q := by
  subst hp; exact hq
theorem want_tok {en : Int} {t : MTok} {r : List MTok} {k : Int} (h : t.1 = k) : rWant en (t :: r, none) k ⟨#[]⟩ = (t, (r, none)) := by
  have : tokIs t k ⟨#[]⟩ = true := by rw [tok_none]; simpa using h
  simp [rWant, this]
theorem want_no {en : Int} {t : MTok} {r : List MTok} {k : Int} (h : ¬ t.1 = k) : rWant en (t :: r, none) k ⟨#[]⟩ = (noTok, (t :: r, some (t.2.1, 20))) := by
  have : tokIs t k ⟨#[]⟩ = false := by rw [tok_none]; simpa using h
  simp [rWant, this, rFail, nextAt]
theorem is_tok {t : MTok} {r : List MTok} {k : Int} (h : t.1 = k) : rIs (t :: r, none) k ⟨#[]⟩ = true := by
  show tokIs t k _ = true; rw [tok_none]; simpa using h
theorem is_no {t : MTok} {r : List MTok} {k : Int} (h : ¬ t.1 = k) : rIs (t :: r, none) k ⟨#[]⟩ = false := by
  show tokIs t k _ = false; rw [tok_none]; simpa using h
theorem sim_proc {en : Int} {l : List MTok} : Sim l (pProc en l) (rProc en (l, none)) := by
  cases l with
  | nil => rfl
  | cons t r =>
    by_cases h : t.1 = 2
    · by_cases h0 : 0 ≤ t.2.2.2 ∧ t.2.2.2 ≤ 99
      · have n1 : ¬ t.2.2.2 < 0 := by omega
        have n2 : ¬ 99 < t.2.2.2 := by omega
        refine sim_of (x := t.2.2.2) (l' := r) (if_pos ⟨h, h0⟩) ?_ (List.suffix_cons _ _)
        simp [rProc, is_tok h, n1, n2, want_tok h]
      · have n1 : t.2.2.2 < 0 ∨ 99 < t.2.2.2 := by omega
        refine sim_bad (e := (t.2.1, 20)) (if_neg (fun hh => h0 hh.2)) ?_
        simp [rProc, is_tok h, n1, rFail, rWant_st, nextAt]
    · refine sim_bad (e := (t.2.1, 20)) (if_neg (fun hh => h hh.1)) ?_
      simp [rProc, is_no h, want_no h]
theorem sim_key {en : Int} {l : List MTok} (hw : Wds l) : Sim l (pKey en l) (rKey en (l, none)) := by
  cases l with
  | nil => rfl
  | cons t r =>
    by_cases h : t.1 = 1
    · have hb := hw t (List.mem_cons_self ..) h
      by_cases h0 : t.2.2.1.size ≤ 6
      · have n1 : ¬ 6 < t.2.2.1.size := by omega
        refine sim_of (x := t.2.2.1) (l' := r) (if_pos ⟨h, by unfold keyOk; rw [hb]; simpa using h0⟩) ?_ (List.suffix_cons _ _)
        simp [rKey, is_tok h, n1, want_tok h]
      · have n1 : 6 < t.2.2.1.size := by omega
        refine sim_bad (e := (t.2.1, 20)) (if_neg (fun hh => by have := hh.2; unfold keyOk at this; simp at this; omega)) ?_
        simp [rKey, is_tok h, n1, rFail, rWant_st, nextAt]
    · refine sim_bad (e := (t.2.1, 20)) (if_neg (fun hh => h hh.1)) ?_
      simp [rKey, is_no h, want_no h]
theorem sim_from {en : Int} {l : List MTok} : ∀ (ws : List ByteArray) (k : Nat), (∀ x ∈ ws, x.toList.isEmpty = false) → Sim l (pKind en l (k + 1) ws) (rWordFrom en (l, none) k ws)
  | [], k, _ => rfl
  | x :: xs, k, h => by
    unfold pKind rWordFrom
    have hx := h x (List.mem_cons_self ..)
    rw [rIs_sees hx]
    cases hs : seesP l 1 x with
    | true => refine ⟨?_, List.tail_suffix l⟩; simp [want_sees hx hs]
    | false => exact sim_from xs (k + 1) (fun y hy => h y (List.mem_cons_of_mem _ hy))
theorem sees_empty {l : List MTok} (hw : Wds l) : seesP l 1 ⟨#[]⟩ = false := by
  cases l with
  | nil => rfl
  | cons t r =>
    show (t.1 == 1 && t.2.2.1.toList == ByteArray.toList ⟨#[]⟩) = false
    by_cases h : t.1 = 1
    · obtain ⟨b, q, hq, _⟩ := word_form (hw t (List.mem_cons_self ..) h)
      have h2 : (t.2.2.1.toList == ByteArray.toList ⟨#[]⟩) = false := by
        rw [ByteArray.toList_eq, ByteArray.toList_eq, hq]; rfl
      rw [h2, Bool.and_false]
    · have : (t.1 == 1) = false := by simpa using h
      rw [this, Bool.false_and]
theorem sim_kind {en : Int} {l : List MTok} (ws : List ByteArray) (hw : Wds l) (h : ∀ x ∈ ws, x.toList.isEmpty = false) : Sim l (pKind en l 0 (⟨#[]⟩ :: ws)) (rWordFrom en (l, none) 0 ws) := by
  unfold pKind
  rw [sees_empty hw]
  exact sim_from ws 0 h
theorem sim_nums {en : Int} : ∀ (l : List MTok) (acc : List Int), Sim l (pNums en l acc) (rList l acc)
  | [], acc => ⟨rfl, List.suffix_refl _⟩
  | t :: l, acc => by
    unfold pNums rList
    rw [tok_none]
    by_cases h : t.1 = 2
    · rw [if_pos h, if_pos (show (t.1 == 2) = true by simpa using h)]
      by_cases h4 : acc.length = 40
      · rw [if_pos h4, if_pos h4]; rfl
      · rw [if_neg h4, if_neg h4]
        have hh := sim_nums (en := en) l (acc ++ [t.2.2.2])
        revert hh
        generalize pNums en l (acc ++ [t.2.2.2]) = pf
        intro hh
        cases pf with
        | error e => exact hh
        | ok z => exact ⟨hh.1, hh.2.trans (List.suffix_cons _ _)⟩
    · rw [if_neg h, if_neg (show ¬ (t.1 == 2) = true by simpa using h)]
      exact ⟨rfl, List.suffix_refl _⟩
end Go.Proofs.YtegeiojcdjnmjaaGreatDoor
