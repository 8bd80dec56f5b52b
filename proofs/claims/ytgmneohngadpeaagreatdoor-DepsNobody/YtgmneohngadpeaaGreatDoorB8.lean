/-
  The lowest bit of a word, and Next.
-/
import Derived.Test.YtgmneohngadpeaaGreatDoorB7
import Derived.Shelf.Spec.TrailingZeros
namespace Go.Proofs.YtgmneohngadpeaaGreatDoor
set_option linter.unusedVariables false
set_option linter.unusedSimpArgs false
open Go.RowKit

/-- The library's table lies in its variable. -/
def Tab (w : World) : Prop := TabAt 0 Lib.deBruijn64tab w
theorem Tab.later {w w' : World} (h : Tab w) (hb : Below w.heap.size w w') : Tab w' := fun j hj => by
  have h1 := h j hj
  exact (hb.cell (p := ⟨0, j, none⟩) (World.block_lt_of_cell? _ _ h1)).trans h1
theorem Tab.beside {w w' : World} {c : Nat} (h : Tab w) (hb : Beside c w w') (hc : c ≠ 0) : Tab w' := fun j hj => by
  have h1 := h j hj
  exact (World.cell?_of_block (w := w) (a := ⟨0, j, none⟩) (hb.block 0 (World.block_lt_of_cell? _ _ h1) (fun e => hc e.symm))).trans h1

set_option maxHeartbeats 1000000 in
theorem tz_core (x k idx : Nat) (w : World) (hx0 : ((x : Int) == 0) = false)
    (key : IntKind.u64.wrap (bits BinOp.and IntKind.u64 (x : Int) (IntKind.u64.wrap (-(x : Int))) * 285870213051353865) / 288230376151711744 = (idx : Int))
    (hi : idx < 64) (hk : k < 64) (hcell : w.cell? ⟨0, idx, none⟩ = some (.int .u8 k)) :
    Calls Tryz.prog 99 #[.int .u64 x] w fun e w' => e = .returned (.int .i64 k) ∧ w = w' := by
  go_enter Tryz.func99, Tryz.ntmps99
  go_wp2_with (simp only [key])
  go_ret
  exact ⟨rfl, rfl⟩
theorem tz_any (x : Nat) (w : World) (hT : Tab w) (hx : x < 18446744073709551616) (hx0 : x ≠ 0) : ∃ k, k < 64 ∧ x.testBit k = true ∧ (∀ j, j < k → x.testBit j = false) ∧ Calls Tryz.prog 99 #[.int .u64 x] w fun e w' => e = .returned (.int .i64 k) ∧ w = w' := by
  obtain ⟨hlow, hk⟩ := Lib.lowest_bit 64 x hx0 hx
  obtain ⟨hi, htab⟩ := Lib.deBruijn64_at _ hk
  have hcell := hT _ hi
  rw [htab] at hcell
  have hc := tz_core x _ _ w (by simp; omega) (tz64_key x _ hx hx0 hlow) hi hk hcell
  obtain ⟨m, hm, _⟩ := Lib.ctzFrom_spec 64 x (by omega) hx
  have e : Lib.ctz 64 x = Lib.ctzFrom 64 x := by unfold Lib.ctz; rw [if_neg hx0]
  rw [e] at hc hk
  generalize Lib.ctzFrom 64 x = k at *
  refine ⟨k, hk, ?_, fun j hj => ?_, hc⟩
  · rw [hm, Nat.testBit_two_pow_mul]
    simp
  · rw [hm, Nat.testBit_two_pow_mul]
    simp
    omega

theorem testBit_up (x s k : Nat) : (x / 2 ^ s * 2 ^ s).testBit k = (decide (s ≤ k) && x.testBit k) := by
  rw [← Nat.shiftRight_eq_div_pow, ← Nat.shiftLeft_eq, Nat.testBit_shiftLeft]
  by_cases h : s ≤ k
  · rw [Nat.testBit_shiftRight]
    simp [h]
  · simp [h]
theorem zero_of_bits (x : Nat) (h : x = 0) (k : Nat) : x.testBit k = false := by subst h; simp

/-- What Next tells of the numbers from i on. -/
def NextIs (f : Nat → Bool) (i : Nat) (r : Int) (t : Bool) : Prop :=
  (t = true ∧ ∃ j : Nat, r = j ∧ i ≤ j ∧ f j = true ∧ ∀ k, i ≤ k → k < j → f k = false) ∨ (t = false ∧ r = 0 ∧ ∀ k, i ≤ k → f k = false)

/-- The word in hand tells the numbers from 64 a on that are not below i; none of those below 64 a is in. -/
def Seen (f : Nat → Bool) (i a x : Nat) : Prop :=
  x < 18446744073709551616 ∧ (∀ k, k < 64 → x.testBit k = (f (64 * a + k) && decide (i ≤ 64 * a + k))) ∧ ∀ j, i ≤ j → j < 64 * a → f j = false
theorem Seen.start {f : Nat → Bool} {ws : List Nat} (i : Nat) (hf : ∀ k, bit ws k = f k) (hx : ws.getD (i / 64) 0 < 18446744073709551616) : Seen f i (i / 64) (ws.getD (i / 64) 0 / 2 ^ (i % 64) * 2 ^ (i % 64)) := by
  refine ⟨Nat.lt_of_le_of_lt (Nat.div_mul_le_self _ _) hx, fun k hk => ?_, fun j h1 h2 => by omega⟩
  rw [testBit_up, ← hf]
  unfold bit
  have e1 : (64 * (i / 64) + k) / 64 = i / 64 := by omega
  have e2 : (64 * (i / 64) + k) % 64 = k := by omega
  rw [e1, e2, Bool.and_comm]
  congr 1
  rw [Bool.eq_iff_iff]
  simp
  omega
theorem Seen.none {f : Nat → Bool} {i a : Nat} (h : Seen f i a 0) : ∀ j, i ≤ j → j < 64 * (a + 1) → f j = false := by
  intro j h1 h2
  by_cases h3 : j < 64 * a
  · exact h.2.2 j h1 h3
  · have h4 := h.2.1 (j - 64 * a) (by omega)
    have e : 64 * a + (j - 64 * a) = j := by omega
    rw [e] at h4
    simp [h1] at h4
    exact h4
theorem Seen.next {f : Nat → Bool} {ws : List Nat} {i a : Nat} (h : Seen f i a 0) (hi : i < 64 * (a + 1)) (hf : ∀ k, bit ws k = f k) (hx : ws.getD (a + 1) 0 < 18446744073709551616) : Seen f i (a + 1) (ws.getD (a + 1) 0) := by
  refine ⟨hx, fun k hk => ?_, fun j h1 h2 => h.none j h1 h2⟩
  rw [← hf]
  unfold bit
  have e1 : (64 * (a + 1) + k) / 64 = a + 1 := by omega
  have e2 : (64 * (a + 1) + k) % 64 = k := by omega
  have e3 : decide (i ≤ 64 * (a + 1) + k) = true := by simp; omega
  rw [e1, e2, e3, Bool.and_true]
theorem Seen.found {f : Nat → Bool} {i a x k : Nat} (h : Seen f i a x) (hk : k < 64) (h1 : x.testBit k = true) (h2 : ∀ j, j < k → x.testBit j = false) : NextIs f i ((a : Int) * 64 + k) true := by
  refine .inl ⟨rfl, 64 * a + k, by omega, ?_, ?_, fun j h3 h4 => ?_⟩
  · have := h.2.1 k hk
    rw [h1] at this
    simp at this
    exact this.symm.1
  · have := h.2.1 k hk
    rw [h1] at this
    simp at this
    exact this.symm.2
  · by_cases h5 : j < 64 * a
    · exact h.2.2 j h3 h5
    · have h6 := h.2.1 (j - 64 * a) (by omega)
      have e : 64 * a + (j - 64 * a) = j := by omega
      rw [h2 _ (by omega), e] at h6
      simp [h3] at h6
      exact h6

theorem start_word (y s : Nat) (hy : y < 18446744073709551616) : Value.int IntKind.u64 (IntKind.u64.wrap ((y : Int) / 2 ^ s * 2 ^ s)) = .int .u64 ((y / 2 ^ s * 2 ^ s : Nat) : Int) := by
  have e : (y : Int) / 2 ^ s * 2 ^ s = ((y / 2 ^ s * 2 ^ s : Nat) : Int) := by simp
  rw [e, wrap_nat _ (Nat.lt_of_le_of_lt (Nat.div_mul_le_self _ _) hy)]
set_option maxHeartbeats 1000000 in
theorem next_at (b n c : Nat) (ws : List Nat) (f : Nat → Bool) (i : Int) (w : World) (h : SetAt w b n c ws) (hf : ∀ k, bit ws k = f k) (ht : ∀ k, n ≤ k → f k = false) (hT : Tab w) (iN : Nat) (hi : iN = i.toNat) (hin : iN < n) :
    Calls Tryz.prog 73 #[.pointer (some ⟨b, 0, none⟩), .int .i64 i] w fun e w' => (∃ r t, e = .returned (.tuple #[.int .i64 r, .bool t]) ∧ NextIs f iN r t) ∧ w = w' := by
  have c0 := h.c0
  have c1 := h.c1
  have c2 := h.c2
  have hl := hid h.len
  have hbd := h.bound
  have hm : ws.length ≤ 64 := by have := h.len; omega
  have hj : iN / 64 < ws.length := by have := h.len; omega
  have cw : Hid (∀ j, j < ws.length → w.cell? ⟨c, j, none⟩ = some (.int .u64 (ws.getD j 0 : Nat))) := h.word
  have hx : Hid (∀ j, ws.getD j 0 < 18446744073709551616) := h.lt
  have HF := hid hf
  have HT := hid ht
  have HTab := hid hT
  have HI := hid hi
  have hmx : max i 0 = (iN : Int) := by omega
  have cw0 := cw.out _ hj
  have S0 := hid (Seen.start iN hf (hx.out _))
  have hx0 := hx.out (iN / 64)
  have hi0 : (0 : Int) ≤ iN := by omega
  have hi1 : (iN : Int) ≤ 4096 := by omega
  clear h hf ht hT hi
  generalize hy : ws.getD (iN / 64) 0 = y at *
  clear hy
  go_enter Tryz.func73, Tryz.ntmps73
  go_wp2_with (go_at_call 50; refine (check_ok _ _ _ _ c0 c1 hin).mono ?_; rintro e w' ⟨rfl, rfl⟩)
  go_loopg [6, 8] ws.length (fun g at' word wr => ∃ a x : Nat, a < ws.length ∧ ws.length - a ≤ g ∧ at' = .int .i64 a ∧ word = .int .u64 x ∧ Aside (Seen f iN a x) ∧ iN < 64 * (a + 1) ∧ w = wr)
  case atStart => exact ⟨iN / 64, _, hj, by omega, by go_num, start_word y _ hx0, S0.out, by omega, rfl⟩
  case round =>
    obtain ⟨a, x, ha, hg, rfl, rfl, SA, hia, rfl⟩ := hrel
    by_cases hz : x = 0
    · subst hz
      by_cases hlast : a + 1 = ws.length
      · have hq : ((a : Int) + 1 == (ws.length : Int)) = true := by simp; omega
        go_wp2_with fail
        go_ret2
        refine ⟨⟨0, false, rfl, .inr ⟨rfl, rfl, fun k hk => ?_⟩⟩, rfl⟩
        by_cases h64 : k < 64 * (a + 1)
        · exact SA.out.none k hk h64
        · exact HT.out k (by have := hl.out; omega)
      · have hq : ((a : Int) + 1 == (ws.length : Int)) = false := by simp; omega
        have ck := cw.out (a + 1) (by omega)
        have hlt : (a : Int) + 1 < (ws.length : Int) := by omega
        have ham : (a : Int) ≤ 64 := by omega
        have SN : Hid (Seen f iN (a + 1) (ws.getD (a + 1) 0)) := SA.out.next hia HF.out (hx.out _)
        generalize ws.getD (a + 1) 0 = z at *
        go_wp2_with fail
        go_roundg (ws.length - (a + 1))
        · exact ⟨a + 1, z, by omega, by omega, by go_num, rfl, SN.out, by omega, rfl⟩
        · omega
    · have hq : ((x : Int) == 0) = false := by simp; omega
      obtain ⟨k, hk, k1, k2, HC⟩ := tz_any x w HTab.out SA.out.1 hz
      have SF := hid (SA.out.found hk k1 k2)
      have K := hid HC
      have hka : (k : Int) < 64 := by omega
      have ham : (a : Int) ≤ 64 := by omega
      clear k1 k2 HC
      go_wp2_with (go_at_call 99; refine K.out.mono ?_; rintro e w' ⟨rfl, rfl⟩)
      go_ret2
      exact ⟨⟨_, true, rfl, SF.out⟩, rfl⟩
theorem next_off (b n c : Nat) (f : Nat → Bool) (i : Int) (w : World) (h : Is w b n c f) (hi : (n : Int) ≤ max i 0) :
    Calls Tryz.prog 73 #[.pointer (some ⟨b, 0, none⟩), .int .i64 i] w fun e w' => e = .returned (.tuple #[.int .i64 0, .bool false]) ∧ w = w' := by
  obtain ⟨ws, h1, h2⟩ := h.ex
  have c0 := hid h1.c0
  have c1 := hid h1.c1
  have HI : Hid (max i 0 < 0 ∨ (n : Int) ≤ max i 0) := .inr hi
  clear h h1 h2 hi
  obtain ⟨j, hj⟩ : ∃ j, max i 0 = j := ⟨_, rfl⟩
  rw [hj] at HI
  go_enter Tryz.func73, Tryz.ntmps73
  go_wp2_with (go_at_call 50; refine (check_bad _ _ _ _ c0.out c1.out HI.out).mono ?_; rintro e w' ⟨rfl, rfl⟩)
  go_ret2
  exact ⟨rfl, rfl⟩
theorem next_is (b n c : Nat) (f : Nat → Bool) (i : Int) (w : World) (h : Is w b n c f) (hT : Tab w) :
    Calls Tryz.prog 73 #[.pointer (some ⟨b, 0, none⟩), .int .i64 i] w fun e w' => (∃ r t, e = .returned (.tuple #[.int .i64 r, .bool t]) ∧ NextIs f i.toNat r t) ∧ w = w' := by
  by_cases hi : i.toNat < n
  · obtain ⟨ws, h1, h2⟩ := h.ex
    exact next_at b n c ws f i w h1 h2 h.top hT i.toNat rfl hi
  · refine (next_off b n c f i w h (by omega)).mono ?_
    rintro e w' ⟨rfl, rfl⟩
    exact ⟨⟨0, false, rfl, .inr ⟨rfl, rfl, fun k hk => h.top k (by omega)⟩⟩, rfl⟩
end Go.Proofs.YtgmneohngadpeaaGreatDoor
