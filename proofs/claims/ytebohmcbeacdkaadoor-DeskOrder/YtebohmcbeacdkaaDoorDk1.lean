/-
  What desk has taken of the options so far, in memory, and the walk of take.
-/
import Derived.Test.YtebohmcbeacdkaaDoorS4
import Derived.Test.YtebohmcbeacdkaaDoorDk0
namespace Go.Proofs.YtebohmcbeacdkaaDoor
set_option linter.unusedVariables false
set_option linter.unusedSimpArgs false
open Go.RowKit

theorem hidD {p : Prop} (h : p) : Hid p := h
/-- w' is w but for the block bx and new ones. -/
structure Beside (bx : Nat) (w w' : World) : Prop where
  os : w'.os = w.os
  tape : w'.tape = w.tape
  output : w'.output = w.output
  size : w.heap.size ≤ w'.heap.size
  block : ∀ k, k < w.heap.size → k ≠ bx → w'.heap[k]? = w.heap[k]?

theorem Beside.refl (bx : Nat) (w : World) : Beside bx w w := ⟨rfl, rfl, rfl, Nat.le_refl _, fun _ _ _ => rfl⟩
theorem Beside.trans {bx : Nat} {w w1 w2 : World} (h1 : Beside bx w w1) (h2 : Beside bx w1 w2) : Beside bx w w2 :=
  ⟨h2.os.trans h1.os, h2.tape.trans h1.tape, h2.output.trans h1.output, Nat.le_trans h1.size h2.size, fun k hk hn => (h2.block k (Nat.lt_of_lt_of_le hk h1.size) hn).trans (h1.block k hk hn)⟩
theorem Beside.below {bx B : Nat} {w w' : World} (h : Beside bx w w') (hb : B ≤ bx) (hs : B ≤ w.heap.size) : Below B w w' := ⟨h.os, h.tape, h.output, h.size, fun k hk => h.block k (by omega) (by omega)⟩
theorem Beside.setCell {bx : Nat} {w w' : World} (h : Beside bx w w') {p : Addr} (hp : p.block = bx) (v : Value) : Beside bx w (w'.setCell p v) := by
  have hb : Below bx w' (w'.setCell p v) := (Below.refl bx w').setCell (p := p) (by omega) v
  refine ⟨hb.os.trans h.os, hb.tape.trans h.tape, hb.output.trans h.output, Nat.le_trans h.size hb.size, fun k hk hn => ?_⟩
  refine Eq.trans ?_ (h.block k hk hn)
  simp only [World.setCell, Array.getElem?_modify]
  rw [if_neg (by omega)]

/-- The five cells. -/
structure AC (bx : Nat) (w : World) (o : MOpt) (op : Bool) : Prop where
  c0 : w.cell? ⟨bx, 0, none⟩ = some (.bool o.real)
  c1 : w.cell? ⟨bx, 1, none⟩ = some (.bool o.search)
  c2 : w.cell? ⟨bx, 2, none⟩ = some (.int .i64 o.steps)
  c3 : w.cell? ⟨bx, 3, none⟩ = some (.bool o.echo)
  c4 : w.cell? ⟨bx, 4, none⟩ = some (.bool op)
  z0 : w.frozen? ⟨bx, 0, none⟩ = false
  z1 : w.frozen? ⟨bx, 1, none⟩ = false
  z2 : w.frozen? ⟨bx, 2, none⟩ = false
  z3 : w.frozen? ⟨bx, 3, none⟩ = false
  z4 : w.frozen? ⟨bx, 4, none⟩ = false
section
variable {bx : Nat} {w : World} {o : MOpt} {op : Bool}
theorem AC.set0 (h : AC bx w o op) (u : Bool) : AC bx (w.setCell ⟨bx, 0, none⟩ (.bool u)) { o with real := u } op :=
  ⟨World.cell?_setCell_same _ _ _ h.c0, (World.cell?_setCell_other _ _ _ _ (by simp)).trans h.c1, (World.cell?_setCell_other _ _ _ _ (by simp)).trans h.c2, (World.cell?_setCell_other _ _ _ _ (by simp)).trans h.c3, (World.cell?_setCell_other _ _ _ _ (by simp)).trans h.c4, (World.frozen?_setCell _ _ _ _).trans h.z0, (World.frozen?_setCell _ _ _ _).trans h.z1, (World.frozen?_setCell _ _ _ _).trans h.z2, (World.frozen?_setCell _ _ _ _).trans h.z3, (World.frozen?_setCell _ _ _ _).trans h.z4⟩
theorem AC.set1 (h : AC bx w o op) (u : Bool) : AC bx (w.setCell ⟨bx, 1, none⟩ (.bool u)) { o with search := u } op :=
  ⟨(World.cell?_setCell_other _ _ _ _ (by simp)).trans h.c0, World.cell?_setCell_same _ _ _ h.c1, (World.cell?_setCell_other _ _ _ _ (by simp)).trans h.c2, (World.cell?_setCell_other _ _ _ _ (by simp)).trans h.c3, (World.cell?_setCell_other _ _ _ _ (by simp)).trans h.c4, (World.frozen?_setCell _ _ _ _).trans h.z0, (World.frozen?_setCell _ _ _ _).trans h.z1, (World.frozen?_setCell _ _ _ _).trans h.z2, (World.frozen?_setCell _ _ _ _).trans h.z3, (World.frozen?_setCell _ _ _ _).trans h.z4⟩
theorem AC.set2 (h : AC bx w o op) (u : Int) : AC bx (w.setCell ⟨bx, 2, none⟩ (.int .i64 u)) { o with steps := u } op :=
  ⟨(World.cell?_setCell_other _ _ _ _ (by simp)).trans h.c0, (World.cell?_setCell_other _ _ _ _ (by simp)).trans h.c1, World.cell?_setCell_same _ _ _ h.c2, (World.cell?_setCell_other _ _ _ _ (by simp)).trans h.c3, (World.cell?_setCell_other _ _ _ _ (by simp)).trans h.c4, (World.frozen?_setCell _ _ _ _).trans h.z0, (World.frozen?_setCell _ _ _ _).trans h.z1, (World.frozen?_setCell _ _ _ _).trans h.z2, (World.frozen?_setCell _ _ _ _).trans h.z3, (World.frozen?_setCell _ _ _ _).trans h.z4⟩
theorem AC.set3 (h : AC bx w o op) (u : Bool) : AC bx (w.setCell ⟨bx, 3, none⟩ (.bool u)) { o with echo := u } op :=
  ⟨(World.cell?_setCell_other _ _ _ _ (by simp)).trans h.c0, (World.cell?_setCell_other _ _ _ _ (by simp)).trans h.c1, (World.cell?_setCell_other _ _ _ _ (by simp)).trans h.c2, World.cell?_setCell_same _ _ _ h.c3, (World.cell?_setCell_other _ _ _ _ (by simp)).trans h.c4, (World.frozen?_setCell _ _ _ _).trans h.z0, (World.frozen?_setCell _ _ _ _).trans h.z1, (World.frozen?_setCell _ _ _ _).trans h.z2, (World.frozen?_setCell _ _ _ _).trans h.z3, (World.frozen?_setCell _ _ _ _).trans h.z4⟩
theorem AC.set4 (h : AC bx w o op) (u : Bool) : AC bx (w.setCell ⟨bx, 4, none⟩ (.bool u)) o u :=
  ⟨(World.cell?_setCell_other _ _ _ _ (by simp)).trans h.c0, (World.cell?_setCell_other _ _ _ _ (by simp)).trans h.c1, (World.cell?_setCell_other _ _ _ _ (by simp)).trans h.c2, (World.cell?_setCell_other _ _ _ _ (by simp)).trans h.c3, World.cell?_setCell_same _ _ _ h.c4, (World.frozen?_setCell _ _ _ _).trans h.z0, (World.frozen?_setCell _ _ _ _).trans h.z1, (World.frozen?_setCell _ _ _ _).trans h.z2, (World.frozen?_setCell _ _ _ _).trans h.z3, (World.frozen?_setCell _ _ _ _).trans h.z4⟩
theorem AC.lt (h : AC bx w o op) : bx < w.heap.size := World.block_lt_of_cell? _ _ h.c0
theorem AC.keep {w' : World} (h : AC bx w o op) (hb : Below (bx + 1) w w') : AC bx w' o op := by
  have k : ∀ i, w'.cell? ⟨bx, i, none⟩ = w.cell? ⟨bx, i, none⟩ := fun i => hb.cell (p := ⟨bx, i, none⟩) (Nat.lt_succ_self _)
  have f : ∀ i, w'.frozen? ⟨bx, i, none⟩ = w.frozen? ⟨bx, i, none⟩ := fun i => hb.frozen (p := ⟨bx, i, none⟩) (Nat.lt_succ_self _)
  exact ⟨(k 0).trans h.c0, (k 1).trans h.c1, (k 2).trans h.c2, (k 3).trans h.c3, (k 4).trans h.c4, (f 0).trans h.z0, (f 1).trans h.z1, (f 2).trans h.z2, (f 3).trans h.z3, (f 4).trans h.z4⟩
end

theorem Beside.drew {bx : Nat} {w w' : World} (h : Beside bx w w') : Beside bx w w'.drew := ⟨h.os, h.tape, h.output, h.size, h.block⟩
theorem AC.drew {bx : Nat} {w : World} {o : MOpt} {op : Bool} (h : AC bx w o op) : AC bx w.drew o op := ⟨h.c0, h.c1, h.c2, h.c3, h.c4, h.z0, h.z1, h.z2, h.z3, h.z4⟩
/-- A token as a value. -/
abbrev tokV (t : MTok) : Value := .agg #[.int .i64 t.1, .int .i64 t.2.1, .string t.2.2.1, .int .i64 t.2.2.2]

theorem text_eq (s : ByteArray) (l : List UInt8) : (s.toList == l) = decide (s = ⟨l.toArray⟩) := by
  rw [Lib.toList_data]
  by_cases h : s = ⟨l.toArray⟩
  · subst h; simp
  · rw [decide_eq_false h]
    simp only [beq_eq_false_iff_ne, ne_eq]
    exact fun c => h (WideShapes.bytes_inj (by simpa using c))
theorem text_eq' (s : ByteArray) (l : List UInt8) : (l == s.toList) = decide (s = ⟨l.toArray⟩) := by
  rw [← text_eq, BEq.comm]

/-- A token in a box of its own. -/
def tokO (t : MTok) : Obj := .cells #[.int .i64 t.1, .int .i64 t.2.1, .string t.2.2.1, .int .i64 t.2.2.2] 43
theorem below_new (w : World) (o : Obj) : Below w.heap.size w (w.alloc o) := (Below.refl _ w).alloc (Nat.le_refl _) o
theorem tok_cell (w : World) (t : MTok) (i : Nat) (u : Value) (h : [Value.int .i64 t.1, .int .i64 t.2.1, .string t.2.2.1, .int .i64 t.2.2.2][i]? = some u) : (w.alloc (tokO t)).cell? ⟨w.heap.size, i, none⟩ = some u := by
  unfold World.cell?
  rw [heap_alloc_new]
  simpa [tokO] using h
theorem below_tok (w : World) (t : MTok) (bx : Nat) : Beside bx w (w.alloc (tokO t)) :=
  have h := below_new w (tokO t)
  ⟨h.os, h.tape, h.output, h.size, fun k hk _ => h.block k hk⟩

/-- What take comes to. -/
def TakePost (bx : Nat) (w : World) (r : Option (MOpt × Bool)) (e : Ending) (w' : World) : Prop :=
  e = .returned (.bool r.isSome) ∧ Beside bx w w' ∧ ∀ o' op', r = some (o', op') → AC bx w' o' op'

set_option maxHeartbeats 2000000 in
set_option maxRecDepth 100000 in
theorem take_is (bx : Nat) (o : MOpt) (op : Bool) (t : MTok) (w : World) (h : AC bx w o op) :
    Calls Tryd.prog 10 #[.pointer (some ⟨bx, 0, none⟩), tokV t] w fun e w' => TakePost bx w (take1 o op t) e w' := by
  obtain ⟨o0, o1, o2, o3⟩ := o
  obtain ⟨k, a, x, n⟩ := t
  have hlt := h.lt
  have hne : ¬ w.heap.size = bx := by omega
  have hne' : ¬ bx = w.heap.size := by omega
  have HB := hidD (below_tok w (k, a, x, n) bx)
  have h' := h.keep ((below_new w (tokO (k, a, x, n))).mono hlt)
  have H := hidD h'
  obtain ⟨c0, c1, c2, c3, c4, z0, z1, z2, z3, z4⟩ := h'
  have t0 := tok_cell w (k, a, x, n) 0 _ rfl
  have t2 := tok_cell w (k, a, x, n) 2 _ rfl
  have t3 := tok_cell w (k, a, x, n) 3 _ rfl
  clear h hlt
  unfold tokO at c0 c1 c2 c3 c4 z0 z1 z2 z3 z4 t0 t2 t3 H HB
  simp only at c0 c1 c2 c3 c4 z0 z1 z2 z3 z4 t0 t2 t3
  cases op with
  | true =>
    by_cases hk : k = 2
    · have hr : take1 ⟨o0, o1, o2, o3⟩ true (k, a, x, n) = some (⟨o0, o1, n, o3⟩, false) := by unfold take1; simp [hk]
      rw [hr]
      subst hk
      go_enter Tryd.func10, Tryd.ntmps10
      go_wp2
      go_region
      go_wp2
      go_ret
      exact ⟨rfl, ((HB.out.setCell (p := ⟨bx, 4, none⟩) rfl _).setCell (p := ⟨bx, 2, none⟩) rfl _).drew, fun o' op' e => by cases e; exact ((H.out.set4 false).set2 n).drew⟩
    · have hr : take1 ⟨o0, o1, o2, o3⟩ true (k, a, x, n) = none := by unfold take1; simp [hk]
      have hk' : (k == 2) = false := by simpa using hk
      rw [hr]
      clear hk
      go_enter Tryd.func10, Tryd.ntmps10
      go_wp2
      go_region
      go_wp2
      go_ret
      exact ⟨by rfl, ((HB.out.setCell (p := ⟨bx, 4, none⟩) rfl _).setCell (p := ⟨bx, 2, none⟩) rfl _).drew, fun o' op' e => by cases e⟩
  | false =>
    have hr : take1 ⟨o0, o1, o2, o3⟩ false (k, a, x, n) = if x = wReal then some (⟨true, o1, o2, o3⟩, false) else if x = wSearch then some (⟨o0, true, o2, o3⟩, false) else if x = wSteps then some (⟨o0, o1, o2, o3⟩, true) else if x = wEcho then some (⟨o0, o1, o2, true⟩, false) else none := rfl
    rw [hr]
    clear hr
    by_cases h1 : x = wReal
    · rw [if_pos h1]
      have q1 := text_eq x [114, 101, 97, 108]
      have p1 := text_eq' x [114, 101, 97, 108]
      rw [decide_eq_true (show x = ⟨[114, 101, 97, 108].toArray⟩ from h1)] at q1 p1
      clear h1
      go_enter Tryd.func10, Tryd.ntmps10
      go_wp2
      go_ret
      exact ⟨rfl, HB.out.setCell (p := ⟨bx, 0, none⟩) rfl _, fun o' op' e => by cases e; exact H.out.set0 true⟩
    rw [if_neg h1]
    have q1 := text_eq x [114, 101, 97, 108]
    have p1 := text_eq' x [114, 101, 97, 108]
    rw [decide_eq_false (show ¬ x = ⟨[114, 101, 97, 108].toArray⟩ from h1)] at q1 p1
    clear h1
    by_cases h2 : x = wSearch
    · rw [if_pos h2]
      have q2 := text_eq x [115, 101, 97, 114, 99, 104]
      have p2 := text_eq' x [115, 101, 97, 114, 99, 104]
      rw [decide_eq_true (show x = ⟨[115, 101, 97, 114, 99, 104].toArray⟩ from h2)] at q2 p2
      clear h2
      go_enter Tryd.func10, Tryd.ntmps10
      go_wp2
      go_ret
      exact ⟨rfl, HB.out.setCell (p := ⟨bx, 1, none⟩) rfl _, fun o' op' e => by cases e; exact H.out.set1 true⟩
    rw [if_neg h2]
    have q2 := text_eq x [115, 101, 97, 114, 99, 104]
    have p2 := text_eq' x [115, 101, 97, 114, 99, 104]
    rw [decide_eq_false (show ¬ x = ⟨[115, 101, 97, 114, 99, 104].toArray⟩ from h2)] at q2 p2
    clear h2
    by_cases h3 : x = wSteps
    · rw [if_pos h3]
      have q3 := text_eq x [115, 116, 101, 112, 115]
      have p3 := text_eq' x [115, 116, 101, 112, 115]
      rw [decide_eq_true (show x = ⟨[115, 116, 101, 112, 115].toArray⟩ from h3)] at q3 p3
      clear h3
      go_enter Tryd.func10, Tryd.ntmps10
      go_wp2
      go_ret
      exact ⟨rfl, HB.out.setCell (p := ⟨bx, 4, none⟩) rfl _, fun o' op' e => by cases e; exact H.out.set4 true⟩
    rw [if_neg h3]
    have q3 := text_eq x [115, 116, 101, 112, 115]
    have p3 := text_eq' x [115, 116, 101, 112, 115]
    rw [decide_eq_false (show ¬ x = ⟨[115, 116, 101, 112, 115].toArray⟩ from h3)] at q3 p3
    clear h3
    by_cases h4 : x = wEcho
    · rw [if_pos h4]
      have q4 := text_eq x [101, 99, 104, 111]
      have p4 := text_eq' x [101, 99, 104, 111]
      rw [decide_eq_true (show x = ⟨[101, 99, 104, 111].toArray⟩ from h4)] at q4 p4
      clear h4
      go_enter Tryd.func10, Tryd.ntmps10
      go_wp2
      go_ret
      exact ⟨rfl, HB.out.setCell (p := ⟨bx, 3, none⟩) rfl _, fun o' op' e => by cases e; exact H.out.set3 true⟩
    rw [if_neg h4]
    have q4 := text_eq x [101, 99, 104, 111]
    have p4 := text_eq' x [101, 99, 104, 111]
    rw [decide_eq_false (show ¬ x = ⟨[101, 99, 104, 111].toArray⟩ from h4)] at q4 p4
    clear h4
    go_enter Tryd.func10, Tryd.ntmps10
    go_wp2
    go_ret
    exact ⟨rfl, HB.out, fun o' op' e => by cases e⟩
end Go.Proofs.YtebohmcbeacdkaaDoor
