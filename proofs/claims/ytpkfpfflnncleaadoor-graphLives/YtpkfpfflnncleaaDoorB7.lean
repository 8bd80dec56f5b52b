/-
  How many bits a word has, and Count.
-/
import Derived.Test.YtpkfpfflnncleaaDoorB6
import Derived.Laws.Bits128
namespace Go.Proofs.YtpkfpfflnncleaaDoor
set_option linter.unusedVariables false
set_option linter.unusedSimpArgs false
open Go.RowKit

theorem wrap_nat (a : Nat) (h : a < 18446744073709551616) : IntKind.u64.wrap (a : Int) = (a : Int) := by rw [IntKind.wrap_u64]; omega
/-- The reckoning's steps, in the walk's spelling. -/
theorem ones_steps (x : Nat) (hx : x < 18446744073709551616) : ∃ a b c d e f : Nat,
    IntKind.u64.wrap (bits BinOp.and IntKind.u64 ((x : Int) / 2) 6148914691236517205 + bits BinOp.and IntKind.u64 (x : Int) 6148914691236517205) = (a : Int) ∧
    IntKind.u64.wrap (bits BinOp.and IntKind.u64 ((a : Int) / 4) 3689348814741910323 + bits BinOp.and IntKind.u64 (a : Int) 3689348814741910323) = (b : Int) ∧
    bits BinOp.and IntKind.u64 (IntKind.u64.wrap ((b : Int) / 16 + (b : Int))) 1085102592571150095 = (c : Int) ∧
    IntKind.u64.wrap ((c : Int) + (c : Int) / 256) = (d : Int) ∧ IntKind.u64.wrap ((d : Int) + (d : Int) / 65536) = (e : Int) ∧ IntKind.u64.wrap ((e : Int) + (e : Int) / 4294967296) = (f : Int) ∧
    f < 9223372036854775808 ∧ bits BinOp.and IntKind.i64 (f : Int) 127 = (Pop.cnt x.testBit 64 : Int) := by
  obtain ⟨hT, d, e, hd, hdl, he, hel, hfl, hf⟩ := Pop.ones x hx
  have hS : Pop.T 8 x = Pop.S3 8 (Pop.S2 8 (Pop.S1 8 x)) := rfl
  have a1 : x / 2 &&& 6148914691236517205 ≤ 6148914691236517205 := Nat.and_le_right
  have a2 : x &&& 6148914691236517205 ≤ 6148914691236517205 := Nat.and_le_right
  have ea : Pop.S1 8 x = (x / 2 &&& 6148914691236517205) + (x &&& 6148914691236517205) := by unfold Pop.S1; rw [Pop.mask85]
  generalize Pop.S1 8 x = a at *
  have b1 : a / 4 &&& 3689348814741910323 ≤ 3689348814741910323 := Nat.and_le_right
  have b2 : a &&& 3689348814741910323 ≤ 3689348814741910323 := Nat.and_le_right
  have eb : Pop.S2 8 a = (a / 4 &&& 3689348814741910323) + (a &&& 3689348814741910323) := by unfold Pop.S2; rw [Pop.mask51]
  generalize Pop.S2 8 a = b at *
  have ec : Pop.S3 8 b = (b / 16 + b) &&& 1085102592571150095 := by unfold Pop.S3; rw [Pop.mask15]
  rw [← hS] at ec
  generalize Pop.T 8 x = c at *
  clear hS
  refine ⟨a, b, c, d, e, e + e / 4294967296, ?_, ?_, ?_, ?_, ?_, ?_, hfl, ?_⟩
  · have h1 := u64_and_nat (x / 2) 6148914691236517205 (by omega) (by decide)
    have h2 := u64_and_nat x 6148914691236517205 hx (by decide)
    have h3 : (x : Int) / 2 = ((x / 2 : Nat) : Int) := by omega
    rw [h3]
    refine (congrArg IntKind.u64.wrap (congr (congrArg HAdd.hAdd h1) h2)).trans ?_
    rw [ea]
    exact wrap_nat _ (by omega)
  · have h1 := u64_and_nat (a / 4) 3689348814741910323 (by omega) (by decide)
    have h2 := u64_and_nat a 3689348814741910323 (by omega) (by decide)
    have h3 : (a : Int) / 4 = ((a / 4 : Nat) : Int) := by omega
    rw [h3]
    refine (congrArg IntKind.u64.wrap (congr (congrArg HAdd.hAdd h1) h2)).trans ?_
    rw [eb]
    exact wrap_nat _ (by omega)
  · have h3 : (b : Int) / 16 + (b : Int) = ((b / 16 + b : Nat) : Int) := by omega
    rw [h3, wrap_nat _ (by omega), ec]
    exact u64_and_nat (b / 16 + b) 1085102592571150095 (by omega) (by decide)
  · have h3 : (c : Int) + (c : Int) / 256 = ((c + c / 256 : Nat) : Int) := by omega
    rw [h3, hd]
    exact wrap_nat _ (by omega)
  · have h3 : (d : Int) + (d : Int) / 65536 = ((d + d / 65536 : Nat) : Int) := by omega
    rw [h3, he]
    exact wrap_nat _ (by omega)
  · have h3 : (e : Int) + (e : Int) / 4294967296 = ((e + e / 4294967296 : Nat) : Int) := by omega
    rw [h3]
    exact wrap_nat _ (by omega)
  · rw [← hf]
    generalize e + e / 4294967296 = f at *
    rw [i64_and127]
    omega
set_option maxHeartbeats 1000000 in
theorem ones_any (x : Nat) (w : World) (hx : x < 18446744073709551616) : Calls Tryd.prog 47 #[.int .u64 x] w fun e w' => e = .returned (.int .i64 (Pop.cnt x.testBit 64)) ∧ w = w' := by
  obtain ⟨a, b, c, d, e, f, h1, h2, h3, h4, h5, h6, h7, h8⟩ := ones_steps x hx
  generalize Pop.cnt x.testBit 64 = r at *
  go_enter Tryd.func47, Tryd.ntmps47
  go_wp2
  go_ret
  exact ⟨rfl, rfl⟩

theorem cnt_words (ws : List Nat) (k : Nat) : Pop.cnt (bit ws) (64 * (k + 1)) = Pop.cnt (bit ws) (64 * k) + Pop.cnt (ws.getD k 0).testBit 64 := by
  rw [Nat.mul_add, Pop.cnt_add]
  congr 1
  apply Pop.cnt_congr
  intro i hi
  unfold bit
  have e1 : (64 * k + i) / 64 = k := by omega
  have e2 : (64 * k + i) % 64 = i := by omega
  rw [e1, e2]
theorem cnt_top (f : Nat → Bool) (n m : Nat) (h : n ≤ m) (ht : ∀ i, n ≤ i → f i = false) : Pop.cnt f m = Pop.cnt f n := by
  obtain ⟨k, rfl⟩ : ∃ k, m = n + k := ⟨m - n, by omega⟩
  rw [Pop.cnt_add]
  have : Pop.cnt (fun i => f (n + i)) k = 0 := by
    clear h
    induction k with
    | zero => rfl
    | succ k ih => unfold Pop.cnt; rw [ih, ht (n + k) (by omega)]; rfl
  omega

set_option maxHeartbeats 1000000 in
theorem count_at (b n c : Nat) (ws : List Nat) (w : World) (h : SetAt w b n c ws) : Calls Tryd.prog 25 #[.pointer (some ⟨b, 0, none⟩)] w fun e w' => e = .returned (.int .i64 (Pop.cnt (bit ws) (64 * ws.length))) ∧ w = w' := by
  have c0 := h.c0
  have c2 := h.c2
  have cw : Hid (∀ j, j < ws.length → w.cell? ⟨c, j, none⟩ = some (.int .u64 (ws.getD j 0 : Nat))) := h.word
  have hx : Hid (∀ j, ws.getD j 0 < 18446744073709551616) := h.lt
  have hs : Hid (∀ k, Pop.cnt (bit ws) (64 * (k + 1)) = Pop.cnt (bit ws) (64 * k) + Pop.cnt (ws.getD k 0).testBit 64) := cnt_words ws
  have hl : ws.length ≤ 64 := by have := h.len; have := h.bound; omega
  have hle : Hid (∀ k, Pop.cnt (bit ws) (64 * k) ≤ 64 * k) := fun k => Pop.cnt_le _ _
  clear h
  generalize Pop.cnt (bit ws) = C at *
  generalize ws.length = m at *
  go_enter Tryd.func25, Tryd.ntmps25
  go_wp2_with (go_at_call 45; refine (isMade_at _ _ _ c0).mono ?_; rintro e w' ⟨rfl, rfl⟩)
  go_loopg [3, 5, 14] m (fun g many _ i wr => ∃ k : Nat, k ≤ m ∧ m - k ≤ g ∧ i = .int .i64 k ∧ many = .int .i64 (C (64 * k)) ∧ w = wr)
  case atStart => exact ⟨0, Nat.zero_le _, by omega, rfl, by have := hle.out 0; simp at this ⊢; omega, rfl⟩
  case round =>
    obtain ⟨k, hk, hg, rfl, rfl, rfl⟩ := hrel
    by_cases hlt : k < m
    · have ck := cw.out k hlt
      have hxk := hx.out k
      have H1 := hid (hs.out k)
      have H2 := hle.out k
      have hlti : (k : Int) < m := by omega
      have H3 := hid (Pop.cnt_le (ws.getD k 0).testBit 64)
      generalize ws.getD k 0 = x at *
      have hc1 : Pop.cnt x.testBit 64 ≤ 64 := H3.out
      generalize hD : Pop.cnt x.testBit 64 = D at *
      generalize hE : C (64 * k) = E at *
      go_wp2_with (go_at_call 47; refine (ones_any _ _ hxk).mono ?_; rintro e w' ⟨rfl, rfl⟩)
      go_roundg (m - (k + 1))
      · exact ⟨k + 1, by omega, by omega, by go_num, by rw [H1.out]; go_num, rfl⟩
      · omega
    · have hlti : ¬ (k : Int) < m := by omega
      go_wp2_with fail
      go_ret
      have : k = m := by omega
      subst this
      exact ⟨rfl, rfl⟩
theorem count_is (b n c : Nat) (f : Nat → Bool) (w : World) (h : Is w b n c f) : Calls Tryd.prog 25 #[.pointer (some ⟨b, 0, none⟩)] w fun e w' => e = .returned (.int .i64 (Pop.cnt f n)) ∧ w = w' := by
  obtain ⟨ws, h1, h2⟩ := h.ex
  have e : bit ws = f := funext h2
  have hl := h1.len
  have := count_at b n c ws w h1
  rw [e, cnt_top f n (64 * ws.length) (by omega) h.top] at this
  exact this
end Go.Proofs.YtpkfpfflnncleaaDoor
