/-
  Plain data of histories (operations and events), when two are the same, and how they lie in memory.
-/
import Derived.Test.YtnfbcmnlloipiaaMv
import Derived.WalkKit
import Derived.ProofKit
import Derived.Deep.LoopGhost
import Derived.Deep.Draws
namespace Go.Proofs.Ytnfbcmnlloipiaa
open Go.RowKit

theorem hid {p : Prop} (h : p) : Hid p := h

/-- An operation, plain: its kind, key, value, list, and whether it has one, whether that is nil. -/
abbrev MOp := Int × ByteArray × Int × List Int × Bool × Bool
abbrev MOp.kind (o : MOp) : Int := o.1
abbrev MOp.key (o : MOp) : ByteArray := o.2.1
abbrev MOp.value (o : MOp) : Int := o.2.2.1
abbrev MOp.list (o : MOp) : List Int := o.2.2.2.1
abbrev MOp.has (o : MOp) : Bool := o.2.2.2.2.1
abbrev MOp.nl (o : MOp) : Bool := o.2.2.2.2.2

/-- An event, plain: its kind, process and operations. -/
abbrev MEv := Int × Int × List MOp
abbrev MEv.kind (e : MEv) : Int := e.1
abbrev MEv.proc (e : MEv) : Int := e.2.1
abbrev MEv.ops (e : MEv) : List MOp := e.2.2

/-- Two lists, element by element. -/
def allEq {α : Type} (eq : α → α → Bool) : List α → List α → Bool
  | [], [] => true
  | x :: xs, y :: ys => eq x y && allEq eq xs ys
  | _, _ => false

theorem allEq_len {α : Type} (eq : α → α → Bool) : ∀ (xs ys : List α), xs.length ≠ ys.length → allEq eq xs ys = false
  | [], [], h => absurd rfl h
  | [], _ :: _, _ => rfl
  | _ :: _, [], _ => rfl
  | x :: xs, y :: ys, h => by
    have := allEq_len eq xs ys (fun e => h (by simp [e]))
    simp [allEq, this]

theorem allEq_hit {α : Type} [Inhabited α] (eq : α → α → Bool) : ∀ (xs ys : List α), xs.length = ys.length → (∀ j, j < xs.length → eq (xs.getD j default) (ys.getD j default) = true) → allEq eq xs ys = true
  | [], [], _, _ => rfl
  | [], _ :: _, h, _ => by simp at h
  | _ :: _, [], h, _ => by simp at h
  | x :: xs, y :: ys, h, hj => by
    have h0 := hj 0 (by simp)
    have := allEq_hit eq xs ys (by simpa using h) (fun j hl => by simpa using hj (j + 1) (by simpa using hl))
    simp at h0
    simp [allEq, this, h0]

theorem allEq_miss {α : Type} [Inhabited α] (eq : α → α → Bool) : ∀ (xs ys : List α) (j : Nat), j < xs.length → eq (xs.getD j default) (ys.getD j default) = false → allEq eq xs ys = false
  | [], _, j, h, _ => by simp at h
  | _ :: _, [], j, _, _ => rfl
  | x :: xs, y :: ys, 0, _, hj => by simp at hj; simp [allEq, hj]
  | x :: xs, y :: ys, j + 1, h, hj => by
    have := allEq_miss eq xs ys j (by simpa using h) (by simpa using hj)
    simp [allEq, this]

theorem allEq_refl {α : Type} (eq : α → α → Bool) (h : ∀ x, eq x x = true) : ∀ xs, allEq eq xs xs = true
  | [] => rfl
  | x :: xs => by simp [allEq, h x, allEq_refl eq h xs]

theorem allEq_symm {α : Type} (eq : α → α → Bool) (h : ∀ x y, eq x y = eq y x) : ∀ xs ys, allEq eq xs ys = allEq eq ys xs
  | [], [] => rfl
  | [], _ :: _ => rfl
  | _ :: _, [] => rfl
  | x :: xs, y :: ys => by simp [allEq, h x y, allEq_symm eq h xs ys]

def intsEq (xs ys : List Int) : Bool := allEq (fun x y => x == y) xs ys
def opEq (x y : MOp) : Bool := x.kind == y.kind && (x.key.toList == y.key.toList && (x.value == y.value && (x.has == y.has && (x.nl == y.nl && intsEq x.list y.list))))
def opsEq (xs ys : List MOp) : Bool := allEq opEq xs ys
def evEq (x y : MEv) : Bool := x.kind == y.kind && (x.proc == y.proc && opsEq x.ops y.ops)
def evsEq (xs ys : List MEv) : Bool := allEq evEq xs ys

theorem intsEq_refl (xs : List Int) : intsEq xs xs = true := allEq_refl _ (by simp) xs
theorem intsEq_symm (xs ys : List Int) : intsEq xs ys = intsEq ys xs := allEq_symm _ (fun x y => by rw [Bool.eq_iff_iff, beq_iff_eq, beq_iff_eq]; exact eq_comm) xs ys
theorem opEq_refl (x : MOp) : opEq x x = true := by simp [opEq, intsEq_refl]
theorem beq_sw {α : Type} [BEq α] [LawfulBEq α] (a b : α) : (a == b) = (b == a) := by rw [Bool.eq_iff_iff, beq_iff_eq, beq_iff_eq]; exact eq_comm
theorem opEq_symm (x y : MOp) : opEq x y = opEq y x := by
  unfold opEq; rw [beq_sw x.kind, beq_sw x.key.toList, beq_sw x.value, beq_sw x.has, beq_sw x.nl, intsEq_symm]
theorem evEq_refl (x : MEv) : evEq x x = true := by simp [evEq, opsEq, allEq_refl _ opEq_refl]
theorem evEq_symm (x y : MEv) : evEq x y = evEq y x := by
  unfold evEq opsEq; rw [beq_sw x.kind, beq_sw x.proc, allEq_symm _ opEq_symm]

/-- A slice of ints in memory, all of it in blocks of S. -/
def IntsIn (S : Nat → Prop) (w : World) (v : Value) (l : List Int) : Prop :=
  ∃ ao c, v = .slice ao l.length c ∧ (l.length * 8 ≤ 140737488355328 ∧ l.length ≤ c) ∧ (0 < l.length → ∃ b off, ao = some ⟨b, off, none⟩ ∧ S b ∧ ∀ j, j < l.length → w.cell? ⟨b, off + j, none⟩ = some (.int .i64 (l.getD j default)))

/-- The six cells of an operation. -/
def OpRow (S : Nat → Prop) (w : World) (cs : List Value) (o : MOp) : Prop :=
  ∃ lv, cs = [.int .i64 o.kind, .string o.key, .int .i64 o.value, lv, .bool o.has, .bool o.nl] ∧ IntsIn S w lv o.list

/-- A slice of elements of k cells, each with a property of its cells. -/
def RowsIn {α : Type} [Inhabited α] (k bytes : Nat) (R : List Value → α → Prop) (S : Nat → Prop) (w : World) (v : Value) (l : List α) : Prop :=
  ∃ ao c, v = .slice ao l.length c ∧ (l.length * bytes ≤ 140737488355328 ∧ l.length ≤ c) ∧ (0 < l.length → ∃ b off, ao = some ⟨b, off, none⟩ ∧ S b ∧ ∀ j, j < l.length → ∃ cs, cs.length = k ∧ R cs (l.getD j default) ∧ ∀ i u, cs[i]? = some u → w.cell? ⟨b, off + j * k + i, none⟩ = some u)

def OpsIn (S : Nat → Prop) (w : World) (v : Value) (l : List MOp) : Prop := RowsIn 6 64 (OpRow S w) S w v l
def EvRow (S : Nat → Prop) (w : World) (cs : List Value) (e : MEv) : Prop :=
  ∃ ov, cs = [.int .i64 e.kind, .int .i64 e.proc, ov] ∧ OpsIn S w ov e.ops
def EvsIn (S : Nat → Prop) (w : World) (v : Value) (l : List MEv) : Prop := RowsIn 3 40 (EvRow S w) S w v l

/-- w' holds what w held in the blocks of S. -/
def KeepsIn (S : Nat → Prop) (w w' : World) : Prop := ∀ b, S b → b < w.heap.size → w'.heap[b]? = w.heap[b]?

theorem KeepsIn.cell {S : Nat → Prop} {w w' : World} (h : KeepsIn S w w') {p : Addr} {u : Value} (hS : S p.block) (hc : w.cell? p = some u) : w'.cell? p = some u :=
  (World.cell?_of_block (w := w) (h p.block hS (World.block_lt_of_cell? _ _ hc))).trans hc

theorem IntsIn.keep {S T : Nat → Prop} {w w' : World} {v : Value} {l : List Int} (h : IntsIn S w v l) (hk : KeepsIn S w w') (hT : ∀ b, b < w.heap.size → S b → T b) : IntsIn T w' v l := by
  obtain ⟨ao, c, hv, hl, hc⟩ := h
  refine ⟨ao, c, hv, hl, fun h0 => ?_⟩
  obtain ⟨b, off, ha, hS, hj⟩ := hc h0
  exact ⟨b, off, ha, hT b (World.block_lt_of_cell? _ _ (hj 0 h0)) hS, fun j h => hk.cell (p := ⟨b, off + j, none⟩) hS (hj j h)⟩

theorem RowsIn.keep {α : Type} [Inhabited α] {k bytes : Nat} {R R' : List Value → α → Prop} {S T : Nat → Prop} {w w' : World} {v : Value} {l : List α} (h : RowsIn k bytes R S w v l) (hk0 : 0 < k) (hR : ∀ cs x, R cs x → R' cs x) (hk : KeepsIn S w w') (hT : ∀ b, b < w.heap.size → S b → T b) : RowsIn k bytes R' T w' v l := by
  obtain ⟨ao, c, hv, hl, hc⟩ := h
  refine ⟨ao, c, hv, hl, fun h0 => ?_⟩
  obtain ⟨b, off, ha, hS, hj⟩ := hc h0
  refine ⟨b, off, ha, hT b ?_ hS, fun j h => ?_⟩
  · obtain ⟨cs, hlen, _, hcs⟩ := hj 0 h0
    exact World.block_lt_of_cell? _ _ (hcs 0 cs[0] (List.getElem?_eq_getElem (by omega)))
  · obtain ⟨cs, hlen, hr, hcs⟩ := hj j h
    exact ⟨cs, hlen, hR _ _ hr, fun i u hi => hk.cell (p := ⟨b, off + j * k + i, none⟩) hS (hcs i u hi)⟩

theorem OpRow.keep {S T : Nat → Prop} {w w' : World} {cs : List Value} {o : MOp} (h : OpRow S w cs o) (hk : KeepsIn S w w') (hT : ∀ b, b < w.heap.size → S b → T b) : OpRow T w' cs o := by
  obtain ⟨lv, hcs, hl⟩ := h
  exact ⟨lv, hcs, hl.keep hk hT⟩

theorem OpsIn.keep {S T : Nat → Prop} {w w' : World} {v : Value} {l : List MOp} (h : OpsIn S w v l) (hk : KeepsIn S w w') (hT : ∀ b, b < w.heap.size → S b → T b) : OpsIn T w' v l :=
  RowsIn.keep h (by omega) (fun _ _ hr => OpRow.keep hr hk hT) hk hT

theorem EvRow.keep {S T : Nat → Prop} {w w' : World} {cs : List Value} {o : MEv} (h : EvRow S w cs o) (hk : KeepsIn S w w') (hT : ∀ b, b < w.heap.size → S b → T b) : EvRow T w' cs o := by
  obtain ⟨lv, hcs, hl⟩ := h
  exact ⟨lv, hcs, hl.keep hk hT⟩

theorem EvsIn.keep {S T : Nat → Prop} {w w' : World} {v : Value} {l : List MEv} (h : EvsIn S w v l) (hk : KeepsIn S w w') (hT : ∀ b, b < w.heap.size → S b → T b) : EvsIn T w' v l :=
  RowsIn.keep h (by omega) (fun _ _ hr => EvRow.keep hr hk hT) hk hT

/-- Anywhere. -/
def Any (_ : Nat) : Prop := True
theorem keeps_below {S : Nat → Prop} {w w' : World} (h : Below w.heap.size w w') : KeepsIn S w w' := fun b _ hb => h.block b hb
theorem IntsIn.below {w w' : World} {v : Value} {l : List Int} (h : IntsIn Any w v l) (hb : Below w.heap.size w w') : IntsIn Any w' v l := h.keep (keeps_below hb) (fun _ _ _ => trivial)
theorem OpsIn.below {w w' : World} {v : Value} {l : List MOp} (h : OpsIn Any w v l) (hb : Below w.heap.size w w') : OpsIn Any w' v l := h.keep (keeps_below hb) (fun _ _ _ => trivial)
theorem EvsIn.below {w w' : World} {v : Value} {l : List MEv} (h : EvsIn Any w v l) (hb : Below w.heap.size w w') : EvsIn Any w' v l := h.keep (keeps_below hb) (fun _ _ _ => trivial)

end Go.Proofs.Ytnfbcmnlloipiaa
