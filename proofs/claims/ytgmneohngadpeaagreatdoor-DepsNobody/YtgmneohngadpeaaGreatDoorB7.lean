/-
  How many bits a word has, and Count.
-/
import Derived.Test.YtgmneohngadpeaaGreatDoorB6
import Derived.Laws.Bits128
namespace Go.Proofs.YtgmneohngadpeaaGreatDoor
set_option linter.unusedVariables false
set_option linter.unusedSimpArgs false
open Go.RowKit

theorem wrap_nat (a : Nat) (h : a < 18446744073709551616) : IntKind.u64.wrap (a : Int) = (a : Int) := by rw [IntKind.wrap_u64]; omega
/-- The reckoning's steps, in the walk's spelling. -/
theorem ones_steps (x : Nat) (hx : x < 18446744073709551616) : ∃ a b c d e f : Nat,
    IntKind.u64.wrap (bits BinOp.and IntKind.u64 ((x : Int) / 2) 6148914691236517205 + bits BinOp.and IntKind.u64 (x : Int) 6148914691236517205) = (a : Int) ∧
    IntKind.u64.wrap (bits BinOp.and IntKind.u64 ((a : Int) / 4) 3689348814741910323 + bits BinOp.and IntKind.u64 (a : Int) 3689348814741910323) = (b : Int) ∧
    bits BinOp.and IntKind.u64 (IntKind.u64.wrap ((b : Int) / 16 + (b : Int))) 1085102592571150095 = (c : Int) ∧
    IntKind.u64.wrap ((c : Int) + (c : Int) / 256) = (d : Int) ∧ IntKind.u64.wrap ((d : Int) + (d : Int) / 65536) = (e : Int) ∧ IntKind.u64.wrap ((e : Int) + (e : Int) / 4294967296) = (f : Int) ∧
    f < 9223372036854775808 ∧ bits BinOp.and IntKind.i64 (f : Int) 127 = (Pop.cnt x.testBit 64 : Int) := by
  obtain ⟨hT, d, e, hd, hdl, he, hel, hfl, hf⟩ := Pop.ones x hx
  have hS : Pop.T 8 x = Pop.S3 8 (Pop.S2 8 (Pop.S1 8 x)) := rfl
  have a1 : x / 2 &&& 6148914691236517205 ≤ 6148914691236517205 := Nat.and_le_right
  have a2 : x &&& 6148914691236517205 ≤ 6148914691236517205 := Nat.and_le_right
  have ea : Pop.S1 8 x = (x / 2 &&& 6148914691236517205) + (x &&& 6148914691236517205) := by unfold Pop.S1; rw [Pop.mask85]
  generalize Pop.S1 8 x = a at *
  have b1 : a / 4 &&& 3689348814741910323 ≤ 3689348814741910323 := Nat.and_le_right
  have b2 : a &&& 3689348814741910323 ≤ 3689348814741910323 := Nat.and_le_right
  have eb : Pop.S2 8 a = (a / 4 &&& 3689348814741910323) + (a &&& 3689348814741910323) := by unfold Pop.S2; rw [Pop.mask51]
  generalize Pop.S2 8 a = b at *
  have ec : Pop.S3 8 b = (b / 16 + b) &&& 1085102592571150095 := by unfold Pop.S3; rw [Pop.mask15]
  rw [← hS] at ec
  generalize Pop.T 8 x = c at *
  clear hS
  refine ⟨a, b, c, d, e, e + e / 4294967296, ?_, ?_, ?_, ?_, ?_, ?_, hfl, ?_⟩
  · have h1 := u64_and_nat (x / 2) 6148914691236517205 (by omega) (by decide)
    have h2 := u64_and_nat x 6148914691236517205 hx (by decide)
    have h3 : (x : Int) / 2 = ((x / 2 : Nat) : Int) := by omega
    rw [h3]
    refine (congrArg IntKind.u64.wrap (congr (congrArg HAdd.hAdd h1) h2)).trans ?_
    rw [ea]
    exact wrap_nat _ (by omega)
  · have h1 := u64_and_nat (a / 4) 3689348814741910323 (by omega) (by decide)
    have h2 := u64_and_nat a 3689348814741910323 (by omega) (by decide)
    have h3 : (a : Int) / 4 = ((a / 4 : Nat) : Int) := by omega
    rw [h3]
    refine (congrArg IntKind.u64.wrap (congr (congrArg HAdd.hAdd h1) h2)).trans ?_
    rw [eb]
    exact wrap_nat _ (by omega)
  · have h3 : (b : Int) / 16 + (b : Int) = ((b / 16 + b : Nat) : Int) := by omega
    rw [h3, wrap_nat _ (by omega), ec]
    exact u64_and_nat (b / 16 + b) 1085102592571150095 (by omega) (by decide)
  · have h3 : (c : Int) + (c : Int) / 256 = ((c + c / 256 : Nat) : Int) := by omega
    rw [h3, hd]
    exact wrap_nat _ (by omega)
  · have h3 : (d : Int) + (d : Int) / 65536 = ((d + d / 65536 : Nat) : Int) := by omega
    rw [h3, he]
    exact wrap_nat _ (by omega)
  · have h3 : (e : Int) + (e : Int) / 4294967296 = ((e + e / 4294967296 : Nat) : Int) := by omega
    rw [h3]
    exact wrap_nat _ (by omega)
  · rw [← hf]
    generalize e + e / 4294967296 = f at *
    rw [i64_and127]
    omega
theorem cnt_words (ws : List Nat) (k : Nat) : Pop.cnt (bit ws) (64 * (k + 1)) = Pop.cnt (bit ws) (64 * k) + Pop.cnt (ws.getD k 0).testBit 64 := by
  rw [Nat.mul_add, Pop.cnt_add]
  congr 1
  apply Pop.cnt_congr
  intro i hi
  unfold bit
  have e1 : (64 * k + i) / 64 = k := by omega
  have e2 : (64 * k + i) % 64 = i := by omega
  rw [e1, e2]
theorem cnt_top (f : Nat → Bool) (n m : Nat) (h : n ≤ m) (ht : ∀ i, n ≤ i → f i = false) : Pop.cnt f m = Pop.cnt f n := by
  obtain ⟨k, rfl⟩ : ∃ k, m = n + k := ⟨m - n, by omega⟩
  rw [Pop.cnt_add]
  have : Pop.cnt (fun i => f (n + i)) k = 0 := by
    clear h
    induction k with
    | zero => rfl
    | succ k ih => unfold Pop.cnt; rw [ih, ht (n + k) (by omega)]; rfl
  omega
end Go.Proofs.YtgmneohngadpeaaGreatDoor
