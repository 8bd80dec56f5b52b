/-
  The document's reader of tokens: an operation, whatever it is; what an event's reading holds.
-/
import Derived.Test.YtegeiojcdjnmjaaGreatDoorL21
namespace Go.Proofs.YtegeiojcdjnmjaaGreatDoor
set_option linter.unusedVariables false
set_option linter.unusedSimpArgs false
open Go.RowKit

theorem rWord_among {en : Int} {r : Rd} : ∀ (ws : List ByteArray) (k : Nat), (rWordFrom en r k ws).1 = 0 ∨ ∃ j : Nat, k ≤ j ∧ j < k + ws.length ∧ (rWordFrom en r k ws).1 = (j : Int) + 1
  | [], k => .inl rfl
  | x :: xs, k => by
    unfold rWordFrom
    split
    · exact .inr ⟨k, Nat.le_refl _, by simp, rfl⟩
    · rcases rWord_among xs (k + 1) with h | ⟨j, h1, h2, h3⟩
      · exact .inl h
      · exact .inr ⟨j, by omega, by simp only [List.length_cons]; omega, h3⟩
theorem rop_any (bx : Nat) (en : Int) (r : Rd) (w : World) (h : RS bx en w r) :
    Calls Tryz.prog 44 #[.pointer (some ⟨bx, 0, none⟩)] w (OpPost bx en w (rOp en r).1 (rOp en r).2) := by
  have hu : rOp en r = ((rMid en (rWordFrom en (rWant en r 3 ⟨#[91]⟩).2 0 rOpWords).1 (rKey en (rWordFrom en (rWant en r 3 ⟨#[91]⟩).2 0 rOpWords).2).1 (rKey en (rWordFrom en (rWant en r 3 ⟨#[91]⟩).2 0 rOpWords).2).2).1, (rWant en (rMid en (rWordFrom en (rWant en r 3 ⟨#[91]⟩).2 0 rOpWords).1 (rKey en (rWordFrom en (rWant en r 3 ⟨#[91]⟩).2 0 rOpWords).2).1 (rKey en (rWordFrom en (rWant en r 3 ⟨#[91]⟩).2 0 rOpWords).2).2).2 3 ⟨#[93]⟩).2) := rfl
  rw [hu]
  clear hu
  obtain ⟨q1, e1⟩ : ∃ q1, rWant en r 3 ⟨#[91]⟩ = q1 := ⟨_, rfl⟩
  rw [e1]
  obtain ⟨p2, e2⟩ : ∃ p2, rWordFrom en q1.2 0 rOpWords = p2 := ⟨_, rfl⟩
  have hk : p2.1 = 0 ∨ p2.1 = 1 ∨ p2.1 = 2 ∨ p2.1 = 3 ∨ p2.1 = 4 := by
    rw [← e2]
    rcases rWord_among (en := en) (r := q1.2) rOpWords 0 with h | ⟨j, _, h2, h3⟩
    · exact .inl h
    · have h2' : j < 4 := by simpa using h2
      rw [h3]; omega
  rw [e2]
  obtain ⟨k, r2⟩ := p2
  obtain ⟨p3, e3⟩ : ∃ p3, rKey en r2 = p3 := ⟨_, rfl⟩
  simp only at hk ⊢
  rw [e3]
  obtain ⟨s, r3⟩ := p3
  simp only
  rcases hk with rfl | rfl | rfl | rfl | rfl
  · exact op_0 bx en r w q1 0 r2 s r3 e1 e2 e3 h rfl
  · exact op_13 bx en r w q1 1 r2 s r3 e1 e2 e3 h (.inl rfl)
  · cases i1 : rIs r3 3 ⟨#[40]⟩ with
    | true =>
      have hm : rMid en 2 s r3 = ((2, s, 0, (rList (rWant en r3 3 ⟨#[40]⟩).2.1 []).1, true, false), (rWant en (rList (rWant en r3 3 ⟨#[40]⟩).2.1 []).2 3 ⟨#[41]⟩).2) := by unfold rMid; simp [i1]
      rw [hm]
      exact op_2list bx en r w q1 2 r2 s r3 e1 e2 e3 h rfl i1
    | false =>
      have hm : rMid en 2 s r3 = ((2, s, 0, [], false, false), r3) := by unfold rMid; simp [i1]
      rw [hm]
      exact op_2no bx en r w q1 2 r2 s r3 e1 e2 e3 h rfl i1
  · exact op_13 bx en r w q1 3 r2 s r3 e1 e2 e3 h (.inr rfl)
  · cases i1 : rIs r3 1 ⟨#[110, 105, 108]⟩ with
    | true =>
      have hm : rMid en 4 s r3 = ((4, s, 0, [], true, true), (rWant en r3 1 ⟨#[110, 105, 108]⟩).2) := by unfold rMid; simp [i1]
      rw [hm]
      exact op_4nil bx en r w q1 4 r2 s r3 e1 e2 e3 h rfl i1
    | false =>
      cases i2 : rIs r3 2 ⟨#[]⟩ with
      | true =>
        have hm : rMid en 4 s r3 = ((4, s, (rWant en r3 2 ⟨#[]⟩).1.2.2.2, [], true, false), (rWant en r3 2 ⟨#[]⟩).2) := by unfold rMid; simp [i1, i2]
        rw [hm]
        exact op_4num bx en r w q1 4 r2 s r3 e1 e2 e3 h rfl i1 i2
      | false =>
        have hm : rMid en 4 s r3 = ((4, s, 0, [], false, false), r3) := by unfold rMid; simp [i1, i2]
        rw [hm]
        exact op_4no bx en r w q1 4 r2 s r3 e1 e2 e3 h rfl i1 i2
/-- An event as it is read: its box eb, the answer's box ab. -/
structure ER (bx ab eb B : Nat) (en : Int) (w : World) (k p : Int) (rr : Rd) (os : List MOp) (V : World) (v : Value) (rows : List (List Value)) : Prop where
  rs : RS bx en V rr
  ec : EC eb V k p v
  ac : EC ab V 0 0 (.slice none 0 0)
  be : Beside bx w V
  out : OutInv 74 6 OpRow B V v os.length rows os
  size : B ≤ V.heap.size
theorem ER.final {bx ab eb B : Nat} {en : Int} {w W V : World} {k p : Int} {rr r2 : Rd} {os : List MOp} {o : MOp} {v : Value} {rows : List (List Value)} {ya : Option Addr} {yc : Nat} (h : ER bx ab eb B en w k p rr os W v rows) (ha : AppO bx B W V os o (.slice ya (os.length + 1) yc)) (hP : RS bx en V r2) (h1 : ab < B) (h2 : eb < B) (h3 : ab ≠ bx) (h4 : eb ≠ bx) (h5 : eb ≠ ab) (h6 : bx < eb) (h7 : w.heap.size ≤ eb) (h8 : ∀ b, b < w.heap.size → b < B) :
    ∃ rows', ER bx ab eb B en w k p r2 (os ++ [o]) (V.setCell ⟨eb, 2, none⟩ (.slice ya (os.length + 1) yc)) (.slice ya (os ++ [o]).length yc) rows' := by
  obtain ⟨rows', q1, q2⟩ := ha
  have e1 : V.heap[eb]? = W.heap[eb]? := q2.block eb h2 h4
  have e2 : V.heap[ab]? = W.heap[ab]? := q2.block ab h1 h3
  have hlen : (os ++ [o]).length = os.length + 1 := by simp
  rw [hlen]
  refine ⟨rows', rs_set hP h6 _, (h.ec.same e1).set2 _, (h.ac.same e2).other (fun c => h5 c.symm) _, ?_, ?_, ?_⟩
  · exact Beside.setNew ⟨q2.os.trans h.be.os, q2.tape.trans h.be.tape, q2.output.trans h.be.output, Nat.le_trans h.be.size q2.size, fun b hb hn => (q2.block b (h8 b hb) hn).trans (h.be.block b hb hn)⟩ h7 _
  · rw [hlen]
    have hb : Beside eb V (V.setCell ⟨eb, 2, none⟩ (.slice ya (os.length + 1) yc)) := (Beside.refl eb V).setCell (p := ⟨eb, 2, none⟩) rfl _
    exact q1.beside (fun _ _ _ _ _ _ h => h.keep) hb h2
  · simpa [World.setCell] using Nat.le_trans h.size q2.size
theorem ER.beside {bx ab eb B : Nat} {en : Int} {w W V : World} {k p : Int} {rr r2 : Rd} {os : List MOp} {v : Value} {rows : List (List Value)} (h : ER bx ab eb B en w k p rr os W v rows) (hb : Beside bx W V) (hP : RS bx en V r2) (h3 : ab ≠ bx) (h4 : eb ≠ bx) (hB : bx < B) : ER bx ab eb B en w k p r2 os V v rows :=
  ⟨hP, h.ec.beside hb h4, h.ac.beside hb h3, h.be.trans hb, h.out.beside (fun _ _ _ _ _ _ h => h.keep) hb hB, Nat.le_trans h.size hb.size⟩
theorem rOps_end {en : Int} {f : Nat} {r : Rd} {os : List MOp} (h : rIs r 3 ⟨#[91]⟩ = false) : rOps en (f + 1) r os = (os, r) := by
  show (if rIs r 3 ⟨#[91]⟩ then _ else _) = _
  rw [h]; rfl
theorem rOps_more {en : Int} {f : Nat} {r : Rd} {os : List MOp} (h : rIs r 3 ⟨#[91]⟩ = true) : rOps en (f + 1) r os = rOps en f (rOp en (if os.length = 8 then rFail en 4 r else r)).2 (os ++ [(rOp en (if os.length = 8 then rFail en 4 r else r)).1]) := by
  show (if rIs r 3 ⟨#[91]⟩ then _ else _) = _
  rw [if_pos h]
end Go.Proofs.YtegeiojcdjnmjaaGreatDoor
