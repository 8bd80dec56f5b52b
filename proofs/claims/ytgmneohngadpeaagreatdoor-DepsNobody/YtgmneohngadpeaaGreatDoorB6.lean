/-
  A set by its numbers alone: what Add, Drop and Has make of them.
-/
import Derived.Test.YtgmneohngadpeaaGreatDoorB5
import Derived.Lib.SmallJoins
namespace Go.Proofs.YtgmneohngadpeaaGreatDoor
set_option linter.unusedVariables false
set_option linter.unusedSimpArgs false
open Go.RowKit

theorem bit_set (ws : List Nat) (j x i : Nat) (hj : j < ws.length) : bit (ws.set j x) i = if i / 64 = j then x.testBit (i % 64) else bit ws i := by
  unfold bit
  rw [List.getD_eq_getElem?_getD, List.getD_eq_getElem?_getD, List.getElem?_set]
  by_cases h : i / 64 = j
  · subst h
    simp [hj]
  · rw [if_neg (fun e => h e.symm), if_neg h]
theorem bit_add (ws : List Nat) (i k : Nat) (hj : i / 64 < ws.length) : bit (ws.set (i / 64) (ws.getD (i / 64) 0 ||| 2 ^ (i % 64))) k = (k == i || bit ws k) := by
  rw [bit_set _ _ _ _ hj]
  by_cases h : k / 64 = i / 64
  · rw [if_pos h, Nat.testBit_or, Nat.testBit_two_pow]
    have e : bit ws k = (ws.getD (i / 64) 0).testBit (k % 64) := by unfold bit; rw [h]
    rw [e, Bool.or_comm]
    congr 1
    rw [Bool.eq_iff_iff]
    simp
    omega
  · rw [if_neg h]
    have : (k == i) = false := by simp; intro e; exact h (by rw [e])
    rw [this, Bool.false_or]
theorem bit_drop (ws : List Nat) (i k : Nat) (hj : i / 64 < ws.length) : bit (ws.set (i / 64) (ws.getD (i / 64) 0 &&& (18446744073709551615 - 2 ^ (i % 64)))) k = (!(k == i) && bit ws k) := by
  rw [bit_set _ _ _ _ hj]
  by_cases h : k / 64 = i / 64
  · have hl : 2 ^ (i % 64) < 2 ^ 64 := shl_lt (i % 64) (by omega)
    have e2 : 18446744073709551615 - 2 ^ (i % 64) = 2 ^ 64 - (2 ^ (i % 64) + 1) := by
      generalize (2 ^ (i % 64) : Nat) = y at *
      omega
    rw [if_pos h, Nat.testBit_and, e2, Nat.testBit_two_pow_sub_succ hl, Nat.testBit_two_pow]
    have e : bit ws k = (ws.getD (i / 64) 0).testBit (k % 64) := by unfold bit; rw [h]
    rw [e, Bool.and_comm]
    congr 1
    rw [Bool.eq_iff_iff]
    simp
    omega
  · rw [if_neg h]
    have : (k == i) = false := by simp; intro e; exact h (by rw [e])
    rw [this]
    rfl

/-- w' is w but for the block bx and new ones. -/
structure Beside (bx : Nat) (w w' : World) : Prop where
  os : w'.os = w.os
  tape : w'.tape = w.tape
  output : w'.output = w.output
  size : w.heap.size ≤ w'.heap.size
  block : ∀ k, k < w.heap.size → k ≠ bx → w'.heap[k]? = w.heap[k]?
theorem Beside.refl (bx : Nat) (w : World) : Beside bx w w := ⟨rfl, rfl, rfl, Nat.le_refl _, fun _ _ _ => rfl⟩
theorem Beside.of_below {bx : Nat} {w w' : World} (h : Below w.heap.size w w') : Beside bx w w' := ⟨h.os, h.tape, h.output, h.size, fun k hk _ => h.block k hk⟩
theorem Beside.trans {bx : Nat} {w w1 w2 : World} (h1 : Beside bx w w1) (h2 : Beside bx w1 w2) : Beside bx w w2 :=
  ⟨h2.os.trans h1.os, h2.tape.trans h1.tape, h2.output.trans h1.output, Nat.le_trans h1.size h2.size, fun k hk hn => (h2.block k (Nat.lt_of_lt_of_le hk h1.size) hn).trans (h1.block k hk hn)⟩
theorem Beside.below {bx B : Nat} {w w' : World} (h : Beside bx w w') (hb : B ≤ bx) (hs : B ≤ w.heap.size) : Below B w w' := ⟨h.os, h.tape, h.output, h.size, fun k hk => h.block k (by omega) (by omega)⟩
theorem Beside.setCell {bx : Nat} {w w' : World} (h : Beside bx w w') {p : Addr} (hp : p.block = bx) (v : Value) : Beside bx w (w'.setCell p v) := by
  have hb : Below bx w' (w'.setCell p v) := (Below.refl bx w').setCell (p := p) (by omega) v
  refine ⟨hb.os.trans h.os, hb.tape.trans h.tape, hb.output.trans h.output, Nat.le_trans h.size hb.size, fun k hk hn => ?_⟩
  refine Eq.trans ?_ (h.block k hk hn)
  simp only [World.setCell, Array.getElem?_modify]
  rw [if_neg (by omega)]
theorem Beside.drewN {bx : Nat} {w w' : World} (h : Beside bx w w') (q : Nat) : Beside bx w (w'.drewN q) := ⟨h.os, h.tape, h.output, h.size, h.block⟩

theorem blt {w : World} {b : Nat} {o : Obj} (h : w.heap[b]? = some o) : b < w.heap.size := by
  rcases Nat.lt_or_ge b w.heap.size with h1 | h1
  · exact h1
  · rw [Array.getElem?_eq_none h1] at h
    cases h
theorem SetAt.ne {w : World} {b n c : Nat} {ws : List Nat} (h : SetAt w b n c ws) : b ≠ c := by
  rintro rfl
  have e := h.box.symm.trans h.row
  injection e with e
  injection e with e
  have e0 : (wordsV ws)[0]? = some (.bool true) := by rw [← e]; rfl
  rw [words_at] at e0
  cases hz : ws[0]? with
  | none => rw [hz] at e0; cases e0
  | some x => rw [hz] at e0; simp at e0
theorem SetAt.later {w w' : World} {b n c : Nat} {ws : List Nat} (h : SetAt w b n c ws) (hb : Below w.heap.size w w') : SetAt w' b n c ws :=
  ⟨(hb.block b (blt h.box)).trans h.box, (hb.block c (blt h.row)).trans h.row, h.len, h.small, h.bound⟩
theorem SetAt.beside {w w' : World} {b n c c' : Nat} {ws : List Nat} (h : SetAt w b n c ws) (hb : Beside c' w w') (h1 : b ≠ c') (h2 : c ≠ c') : SetAt w' b n c ws :=
  ⟨(hb.block b (blt h.box) h1).trans h.box, (hb.block c (blt h.row) h2).trans h.row, h.len, h.small, h.bound⟩
theorem SetAt.put {w : World} {b n c : Nat} {ws : List Nat} (h : SetAt w b n c ws) (j x : Nat) (hx : x < 18446744073709551616) : SetAt (w.setCell ⟨c, j, none⟩ (.int .u64 x)) b n c (ws.set j x) := by
  refine ⟨?_, ?_, by rw [List.length_set]; exact h.len, ?_, h.bound⟩
  · rw [List.length_set, Below.heap_setCell _ _ _ _ h.ne]
    exact h.box
  · rw [Go.Joins.block_setCell h.row, words_set]
  · intro y hy
    rcases List.mem_or_eq_of_mem_set hy with h1 | h1
    · exact h.small y h1
    · omega

/-- A set of the numbers below n that f tells, in block b, its words in block c. -/
structure Is (w : World) (b n c : Nat) (f : Nat → Bool) : Prop where
  ex : ∃ ws, SetAt w b n c ws ∧ ∀ i, bit ws i = f i
  top : ∀ i, n ≤ i → f i = false
theorem Is.later {w w' : World} {b n c : Nat} {f : Nat → Bool} (h : Is w b n c f) (hb : Below w.heap.size w w') : Is w' b n c f := by
  obtain ⟨ws, h1, h2⟩ := h.ex
  exact ⟨⟨ws, h1.later hb, h2⟩, h.top⟩
theorem Is.beside {w w' : World} {b n c c' : Nat} {f : Nat → Bool} (h : Is w b n c f) (hb : Beside c' w w') (n1 : b ≠ c') (n2 : c ≠ c') : Is w' b n c f := by
  obtain ⟨ws, h1, h2⟩ := h.ex
  exact ⟨⟨ws, h1.beside hb n1 n2, h2⟩, h.top⟩
theorem Is.drewN {w : World} {b n c : Nat} {f : Nat → Bool} (h : Is w b n c f) (q : Nat) : Is (w.drewN q) b n c f := h.later (below_drewN (Below.refl _ _) q)
theorem Is.ne {w : World} {b n c : Nat} {f : Nat → Bool} (h : Is w b n c f) : b ≠ c := by
  obtain ⟨ws, h1, h2⟩ := h.ex
  exact h1.ne
theorem Is.bound {w : World} {b n c : Nat} {f : Nat → Bool} (h : Is w b n c f) : n ≤ 4096 := by
  obtain ⟨ws, h1, h2⟩ := h.ex
  exact h1.bound
theorem Is.blt {w : World} {b n c : Nat} {f : Nat → Bool} (h : Is w b n c f) : b < w.heap.size ∧ c < w.heap.size := by
  obtain ⟨ws, h1, h2⟩ := h.ex
  exact ⟨Go.Proofs.YtgmneohngadpeaaGreatDoor.blt h1.box, Go.Proofs.YtgmneohngadpeaaGreatDoor.blt h1.row⟩

theorem bit_none (m i : Nat) : bit (List.replicate m 0) i = false := by
  unfold bit
  rw [List.getD_eq_getElem?_getD, List.getElem?_replicate]
  split <;> simp
theorem new_is (n : Nat) (hn : n ≤ 4096) (w : World) : Calls Tryz.prog 28 #[.int .i64 n] w fun e w' => e = .returned (.tuple #[.pointer (some ⟨w.heap.size + 1, 0, none⟩), .int .i64 0]) ∧ Is w' (w.heap.size + 1) n w.heap.size (fun _ => false) ∧ Below w.heap.size w w' ∧ w'.heap.size = w.heap.size + 2 := by
  refine (new_set n hn w).mono ?_
  rintro e w' ⟨rfl, h, hb, hs⟩
  exact ⟨rfl, ⟨⟨_, h, fun i => bit_none _ i⟩, fun _ _ => rfl⟩, hb, hs⟩
theorem add_is (b n c : Nat) (f : Nat → Bool) (i : Nat) (w : World) (h : Is w b n c f) (hi : i < n) : Calls Tryz.prog 30 #[.pointer (some ⟨b, 0, none⟩), .int .i64 i] w fun e w' => e = .returned (.int .i64 0) ∧ Is w' b n c (fun k => k == i || f k) ∧ Beside c w w' ∧ w'.heap.size = w.heap.size := by
  obtain ⟨ws, h1, h2⟩ := h.ex
  have hl := h1.len
  have hx : ws.getD (i / 64) 0 ||| 2 ^ (i % 64) < 18446744073709551616 := Nat.or_lt_two_pow (n := 64) (h1.lt _) (shl_lt _ (by omega))
  refine (add_raw b n c ws i w h1 hi).mono ?_
  rintro e w' ⟨rfl, q, rfl⟩
  refine ⟨rfl, ⟨⟨_, (h1.put (i / 64) _ hx).later (below_drewN (Below.refl _ _) q), fun k => ?_⟩, fun k hk => ?_⟩, ((Beside.refl c w).setCell rfl _).drewN q, by simp [World.drewN, World.setCell]⟩
  · rw [bit_add ws i k (by omega), h2]
  · have : (k == i) = false := by simp; omega
    simp [this, h.top k hk]
theorem has_is (b n c : Nat) (f : Nat → Bool) (i : Nat) (w : World) (h : Is w b n c f) (hi : i < n) : Calls Tryz.prog 31 #[.pointer (some ⟨b, 0, none⟩), .int .i64 i] w fun e w' => e = .returned (.bool (f i)) ∧ w = w' := by
  obtain ⟨ws, h1, h2⟩ := h.ex
  rw [← h2]
  exact has_ok b n c ws i w h1 hi
theorem has_off (b n c : Nat) (f : Nat → Bool) (i : Int) (w : World) (h : Is w b n c f) (hi : i < 0 ∨ (n : Int) ≤ i) : Calls Tryz.prog 31 #[.pointer (some ⟨b, 0, none⟩), .int .i64 i] w fun e w' => e = .returned (.bool false) ∧ w = w' := by
  obtain ⟨ws, h1, h2⟩ := h.ex
  exact has_bad b n c ws i w h1 hi
theorem add_off (b n c : Nat) (f : Nat → Bool) (i : Int) (w : World) (h : Is w b n c f) (hi : i < 0 ∨ (n : Int) ≤ i) : Calls Tryz.prog 30 #[.pointer (some ⟨b, 0, none⟩), .int .i64 i] w fun e w' => e = .returned (.int .i64 1) ∧ w = w' := by
  obtain ⟨ws, h1, h2⟩ := h.ex
  exact add_bad b n c ws i w h1 hi
end Go.Proofs.YtgmneohngadpeaaGreatDoor
