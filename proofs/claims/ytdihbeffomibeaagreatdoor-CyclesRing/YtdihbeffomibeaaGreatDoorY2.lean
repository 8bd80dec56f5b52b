/-
  The lowest bit of a word, and Next.
  List: a set's numbers, rising.
  The walk of the law BitsEdges.
  The document's sets: what they look like in memory; New, Add, Drop, Has.
  A set filled with numbers; two equal lists of numbers.
  The walk of the law BitsGoes.
  The document's sets: List, Next, Same, Copy.
  Or and And of two sets.
  The document's sets: Or and And; sets of unlike bounds.
-/
import Derived.Test.YtdihbeffomibeaaGreatDoorY1
import Derived.Shelf.Spec.TrailingZeros
import Derived.Deep.AppendLies
namespace Go.Proofs.YtdihbeffomibeaaGreatDoor
set_option linter.unusedVariables false
set_option linter.unusedSimpArgs false
open Go.RowKit

/-- The library's table lies in its variable. -/
def Tab (w : World) : Prop := TabAt 1 Lib.deBruijn64tab w
theorem Tab.later {w w' : World} (h : Tab w) (hb : Below w.heap.size w w') : Tab w' := fun j hj => by
  have h1 := h j hj
  exact (hb.cell (p := ⟨1, j, none⟩) (World.block_lt_of_cell? _ _ h1)).trans h1
theorem Tab.beside {w w' : World} {c : Nat} (h : Tab w) (hb : Beside c w w') (hc : c ≠ 1) : Tab w' := fun j hj => by
  have h1 := h j hj
  exact (World.cell?_of_block (w := w) (a := ⟨1, j, none⟩) (hb.block 1 (World.block_lt_of_cell? _ _ h1) (fun e => hc e.symm))).trans h1

set_option maxHeartbeats 1000000 in
theorem tz_core (x k idx : Nat) (w : World) (hx0 : ((x : Int) == 0) = false)
    (key : IntKind.u64.wrap (bits BinOp.and IntKind.u64 (x : Int) (IntKind.u64.wrap (-(x : Int))) * 285870213051353865) / 288230376151711744 = (idx : Int))
    (hi : idx < 64) (hk : k < 64) (hcell : w.cell? ⟨1, idx, none⟩ = some (.int .u8 k)) :
    Calls Tryz.prog 91 #[.int .u64 x] w fun e w' => e = .returned (.int .i64 k) ∧ w = w' := by
  go_enter Tryz.func91, Tryz.ntmps91
  go_wp2_with (simp only [key])
  go_ret
  exact ⟨rfl, rfl⟩
theorem tz_any (x : Nat) (w : World) (hT : Tab w) (hx : x < 18446744073709551616) (hx0 : x ≠ 0) : ∃ k, k < 64 ∧ x.testBit k = true ∧ (∀ j, j < k → x.testBit j = false) ∧ Calls Tryz.prog 91 #[.int .u64 x] w fun e w' => e = .returned (.int .i64 k) ∧ w = w' := by
  obtain ⟨hlow, hk⟩ := Lib.lowest_bit 64 x hx0 hx
  obtain ⟨hi, htab⟩ := Lib.deBruijn64_at _ hk
  have hcell := hT _ hi
  rw [htab] at hcell
  have hc := tz_core x _ _ w (by simp; omega) (tz64_key x _ hx hx0 hlow) hi hk hcell
  obtain ⟨m, hm, _⟩ := Lib.ctzFrom_spec 64 x (by omega) hx
  have e : Lib.ctz 64 x = Lib.ctzFrom 64 x := by unfold Lib.ctz; rw [if_neg hx0]
  rw [e] at hc hk
  generalize Lib.ctzFrom 64 x = k at *
  refine ⟨k, hk, ?_, fun j hj => ?_, hc⟩
  · rw [hm, Nat.testBit_two_pow_mul]
    simp
  · rw [hm, Nat.testBit_two_pow_mul]
    simp
    omega

theorem testBit_up (x s k : Nat) : (x / 2 ^ s * 2 ^ s).testBit k = (decide (s ≤ k) && x.testBit k) := by
  rw [← Nat.shiftRight_eq_div_pow, ← Nat.shiftLeft_eq, Nat.testBit_shiftLeft]
  by_cases h : s ≤ k
  · rw [Nat.testBit_shiftRight]
    simp [h]
  · simp [h]
theorem zero_of_bits (x : Nat) (h : x = 0) (k : Nat) : x.testBit k = false := by subst h; simp

/-- What Next tells of the numbers from i on. -/
def NextIs (f : Nat → Bool) (i : Nat) (r : Int) (t : Bool) : Prop :=
  (t = true ∧ ∃ j : Nat, r = j ∧ i ≤ j ∧ f j = true ∧ ∀ k, i ≤ k → k < j → f k = false) ∨ (t = false ∧ r = 0 ∧ ∀ k, i ≤ k → f k = false)

/-- The word in hand tells the numbers from 64 a on that are not below i; none of those below 64 a is in. -/
def Seen (f : Nat → Bool) (i a x : Nat) : Prop :=
  x < 18446744073709551616 ∧ (∀ k, k < 64 → x.testBit k = (f (64 * a + k) && decide (i ≤ 64 * a + k))) ∧ ∀ j, i ≤ j → j < 64 * a → f j = false
theorem Seen.start {f : Nat → Bool} {ws : List Nat} (i : Nat) (hf : ∀ k, bit ws k = f k) (hx : ws.getD (i / 64) 0 < 18446744073709551616) : Seen f i (i / 64) (ws.getD (i / 64) 0 / 2 ^ (i % 64) * 2 ^ (i % 64)) := by
  refine ⟨Nat.lt_of_le_of_lt (Nat.div_mul_le_self _ _) hx, fun k hk => ?_, fun j h1 h2 => by omega⟩
  rw [testBit_up, ← hf]
  unfold bit
  have e1 : (64 * (i / 64) + k) / 64 = i / 64 := by omega
  have e2 : (64 * (i / 64) + k) % 64 = k := by omega
  rw [e1, e2, Bool.and_comm]
  congr 1
  rw [Bool.eq_iff_iff]
  simp
  omega
theorem Seen.none {f : Nat → Bool} {i a : Nat} (h : Seen f i a 0) : ∀ j, i ≤ j → j < 64 * (a + 1) → f j = false := by
  intro j h1 h2
  by_cases h3 : j < 64 * a
  · exact h.2.2 j h1 h3
  · have h4 := h.2.1 (j - 64 * a) (by omega)
    have e : 64 * a + (j - 64 * a) = j := by omega
    rw [e] at h4
    simp [h1] at h4
    exact h4
theorem Seen.next {f : Nat → Bool} {ws : List Nat} {i a : Nat} (h : Seen f i a 0) (hi : i < 64 * (a + 1)) (hf : ∀ k, bit ws k = f k) (hx : ws.getD (a + 1) 0 < 18446744073709551616) : Seen f i (a + 1) (ws.getD (a + 1) 0) := by
  refine ⟨hx, fun k hk => ?_, fun j h1 h2 => h.none j h1 h2⟩
  rw [← hf]
  unfold bit
  have e1 : (64 * (a + 1) + k) / 64 = a + 1 := by omega
  have e2 : (64 * (a + 1) + k) % 64 = k := by omega
  have e3 : decide (i ≤ 64 * (a + 1) + k) = true := by simp; omega
  rw [e1, e2, e3, Bool.and_true]
theorem Seen.found {f : Nat → Bool} {i a x k : Nat} (h : Seen f i a x) (hk : k < 64) (h1 : x.testBit k = true) (h2 : ∀ j, j < k → x.testBit j = false) : NextIs f i ((a : Int) * 64 + k) true := by
  refine .inl ⟨rfl, 64 * a + k, by omega, ?_, ?_, fun j h3 h4 => ?_⟩
  · have := h.2.1 k hk
    rw [h1] at this
    simp at this
    exact this.symm.1
  · have := h.2.1 k hk
    rw [h1] at this
    simp at this
    exact this.symm.2
  · by_cases h5 : j < 64 * a
    · exact h.2.2 j h3 h5
    · have h6 := h.2.1 (j - 64 * a) (by omega)
      have e : 64 * a + (j - 64 * a) = j := by omega
      rw [h2 _ (by omega), e] at h6
      simp [h3] at h6
      exact h6

theorem start_word (y s : Nat) (hy : y < 18446744073709551616) : Value.int IntKind.u64 (IntKind.u64.wrap ((y : Int) / 2 ^ s * 2 ^ s)) = .int .u64 ((y / 2 ^ s * 2 ^ s : Nat) : Int) := by
  have e : (y : Int) / 2 ^ s * 2 ^ s = ((y / 2 ^ s * 2 ^ s : Nat) : Int) := by simp
  rw [e, wrap_nat _ (Nat.lt_of_le_of_lt (Nat.div_mul_le_self _ _) hy)]
set_option maxHeartbeats 1000000 in
theorem next_at (b n c : Nat) (ws : List Nat) (f : Nat → Bool) (i : Int) (w : World) (h : SetAt w b n c ws) (hf : ∀ k, bit ws k = f k) (ht : ∀ k, n ≤ k → f k = false) (hT : Tab w) (iN : Nat) (hi : iN = i.toNat) (hin : iN < n) :
    Calls Tryz.prog 77 #[.pointer (some ⟨b, 0, none⟩), .int .i64 i] w fun e w' => (∃ r t, e = .returned (.tuple #[.int .i64 r, .bool t]) ∧ NextIs f iN r t) ∧ w = w' := by
  have c0 := h.c0
  have c1 := h.c1
  have c2 := h.c2
  have hl := hid h.len
  have hbd := h.bound
  have hm : ws.length ≤ 64 := by have := h.len; omega
  have hj : iN / 64 < ws.length := by have := h.len; omega
  have cw : Hid (∀ j, j < ws.length → w.cell? ⟨c, j, none⟩ = some (.int .u64 (ws.getD j 0 : Nat))) := h.word
  have hx : Hid (∀ j, ws.getD j 0 < 18446744073709551616) := h.lt
  have HF := hid hf
  have HT := hid ht
  have HTab := hid hT
  have HI := hid hi
  have hmx : max i 0 = (iN : Int) := by omega
  have cw0 := cw.out _ hj
  have S0 := hid (Seen.start iN hf (hx.out _))
  have hx0 := hx.out (iN / 64)
  have hi0 : (0 : Int) ≤ iN := by omega
  have hi1 : (iN : Int) ≤ 4096 := by omega
  clear h hf ht hT hi
  generalize hy : ws.getD (iN / 64) 0 = y at *
  clear hy
  go_enter Tryz.func77, Tryz.ntmps77
  go_wp2_with (go_at_call 67; refine (check_ok _ _ _ _ c0 c1 hin).mono ?_; rintro e w' ⟨rfl, rfl⟩)
  go_loopg [6, 8] ws.length (fun g at' word wr => ∃ a x : Nat, a < ws.length ∧ ws.length - a ≤ g ∧ at' = .int .i64 a ∧ word = .int .u64 x ∧ Aside (Seen f iN a x) ∧ iN < 64 * (a + 1) ∧ w = wr)
  case atStart => exact ⟨iN / 64, _, hj, by omega, by go_num, start_word y _ hx0, S0.out, by omega, rfl⟩
  case round =>
    obtain ⟨a, x, ha, hg, rfl, rfl, SA, hia, rfl⟩ := hrel
    by_cases hz : x = 0
    · subst hz
      by_cases hlast : a + 1 = ws.length
      · have hq : ((a : Int) + 1 == (ws.length : Int)) = true := by simp; omega
        go_wp2_with fail
        go_ret2
        refine ⟨⟨0, false, rfl, .inr ⟨rfl, rfl, fun k hk => ?_⟩⟩, rfl⟩
        by_cases h64 : k < 64 * (a + 1)
        · exact SA.out.none k hk h64
        · exact HT.out k (by have := hl.out; omega)
      · have hq : ((a : Int) + 1 == (ws.length : Int)) = false := by simp; omega
        have ck := cw.out (a + 1) (by omega)
        have hlt : (a : Int) + 1 < (ws.length : Int) := by omega
        have ham : (a : Int) ≤ 64 := by omega
        have SN : Hid (Seen f iN (a + 1) (ws.getD (a + 1) 0)) := SA.out.next hia HF.out (hx.out _)
        generalize ws.getD (a + 1) 0 = z at *
        go_wp2_with fail
        go_roundg (ws.length - (a + 1))
        · exact ⟨a + 1, z, by omega, by omega, by go_num, rfl, SN.out, by omega, rfl⟩
        · omega
    · have hq : ((x : Int) == 0) = false := by simp; omega
      obtain ⟨k, hk, k1, k2, HC⟩ := tz_any x w HTab.out SA.out.1 hz
      have SF := hid (SA.out.found hk k1 k2)
      have K := hid HC
      have hka : (k : Int) < 64 := by omega
      have ham : (a : Int) ≤ 64 := by omega
      clear k1 k2 HC
      go_wp2_with (go_at_call 91; refine K.out.mono ?_; rintro e w' ⟨rfl, rfl⟩)
      go_ret2
      exact ⟨⟨_, true, rfl, SF.out⟩, rfl⟩
theorem next_off (b n c : Nat) (f : Nat → Bool) (i : Int) (w : World) (h : Is w b n c f) (hi : (n : Int) ≤ max i 0) :
    Calls Tryz.prog 77 #[.pointer (some ⟨b, 0, none⟩), .int .i64 i] w fun e w' => e = .returned (.tuple #[.int .i64 0, .bool false]) ∧ w = w' := by
  obtain ⟨ws, h1, h2⟩ := h.ex
  have c0 := hid h1.c0
  have c1 := hid h1.c1
  have HI : Hid (max i 0 < 0 ∨ (n : Int) ≤ max i 0) := .inr hi
  clear h h1 h2 hi
  obtain ⟨j, hj⟩ : ∃ j, max i 0 = j := ⟨_, rfl⟩
  rw [hj] at HI
  go_enter Tryz.func77, Tryz.ntmps77
  go_wp2_with (go_at_call 67; refine (check_bad _ _ _ _ c0.out c1.out HI.out).mono ?_; rintro e w' ⟨rfl, rfl⟩)
  go_ret2
  exact ⟨rfl, rfl⟩
theorem next_is (b n c : Nat) (f : Nat → Bool) (i : Int) (w : World) (h : Is w b n c f) (hT : Tab w) :
    Calls Tryz.prog 77 #[.pointer (some ⟨b, 0, none⟩), .int .i64 i] w fun e w' => (∃ r t, e = .returned (.tuple #[.int .i64 r, .bool t]) ∧ NextIs f i.toNat r t) ∧ w = w' := by
  by_cases hi : i.toNat < n
  · obtain ⟨ws, h1, h2⟩ := h.ex
    exact next_at b n c ws f i w h1 h2 h.top hT i.toNat rfl hi
  · refine (next_off b n c f i w h (by omega)).mono ?_
    rintro e w' ⟨rfl, rfl⟩
    exact ⟨⟨0, false, rfl, .inr ⟨rfl, rfl, fun k hk => h.top k (by omega)⟩⟩, rfl⟩
end Go.Proofs.YtdihbeffomibeaaGreatDoor
namespace Go.Proofs.YtdihbeffomibeaaGreatDoor
set_option linter.unusedVariables false
set_option linter.unusedSimpArgs false
open Go.RowKit

theorem Tryz.info3 : (Tryz.prog.info? 3).map (fun i => (i.zero, i.size, i.bytes)) = some (some (.int .i64 0), 1, 8) := by kernel_rfl
/-- The numbers below n that f tells, rising. -/
def lst (f : Nat → Bool) (n : Nat) : List Nat := (List.range n).filter f
theorem lst_len (f : Nat → Bool) (n : Nat) : (lst f n).length = Pop.cnt f n := by
  induction n with
  | zero => rfl
  | succ n ih =>
    unfold lst at *
    rw [List.range_succ, List.filter_append, List.length_append, ih]
    show _ = Pop.cnt f n + (f n).toNat
    congr 1
    cases h : f n
    · rw [List.filter_cons_of_neg (by simp [h])]; rfl
    · rw [List.filter_cons_of_pos h]; rfl
theorem lst_le (f : Nat → Bool) (n : Nat) : (lst f n).length ≤ n := by rw [lst_len]; exact Pop.cnt_le f n
theorem lst_gap (f : Nat → Bool) (p q : Nat) (h : p ≤ q) (hn : ∀ k, p ≤ k → k < q → f k = false) : lst f q = lst f p := by
  obtain ⟨m, rfl⟩ : ∃ m, q = p + m := ⟨q - p, by omega⟩
  clear h
  induction m with
  | zero => rfl
  | succ m ih =>
    have h1 := ih fun k h1 h2 => hn k h1 (by omega)
    have h2 := hn (p + m) (by omega) (by omega)
    unfold lst at *
    rw [← Nat.add_assoc, List.range_succ, List.filter_append, h1]
    simp [h2]
theorem lst_step (f : Nat → Bool) (p j : Nat) (h : p ≤ j) (hj : f j = true) (hn : ∀ k, p ≤ k → k < j → f k = false) : lst f (j + 1) = lst f p ++ [j] := by
  have h1 := lst_gap f p j h hn
  unfold lst at *
  rw [List.range_succ, List.filter_append, h1]
  simp [hj]

/-- Numbers as cells. -/
def intsV (l : List Nat) : List Value := l.map fun x : Nat => Value.int .i64 x
/-- A slice of numbers of one's own, in blocks from B on. -/
def Ints (B : Nat) (w : World) (v : Value) (l : List Nat) : Prop := w.ownsRow B 3 1 v l.length (intsV l)
theorem Ints.later {B : Nat} {w w' : World} {v : Value} {l : List Nat} (h : Ints B w v l) (hb : Below w.heap.size w w') : Ints B w' v l :=
  World.ownsRow.kept (row := none) h ⟨hb.os, hb.tape, hb.output, hb.size, fun k hk _ => hb.block k hk⟩ (by cases hq : v.ownBlock with | none => exact .inl rfl | some g => exact .inr (by simp))
end Go.Proofs.YtdihbeffomibeaaGreatDoor
namespace Go.Proofs.YtdihbeffomibeaaGreatDoor
set_option linter.unusedVariables false
set_option linter.unusedSimpArgs false
open Go.RowKit

/-- A slice of numbers that was handed in. -/
def ArgIn (w : World) (ao : Option Addr) (zs : List Int) : Prop :=
  ∀ j, j < zs.length → ∃ b off, ao = some ⟨b, off, none⟩ ∧ w.cell? ⟨b, off + j, none⟩ = some (.int .i64 (zs.getD j 0))
theorem ArgIn.later {w w' : World} {ao : Option Addr} {zs : List Int} (h : ArgIn w ao zs) (hb : Below w.heap.size w w') : ArgIn w' ao zs := fun j hj => by
  obtain ⟨b, off, e, hc⟩ := h j hj
  exact ⟨b, off, e, (hb.cell (p := ⟨b, off + j, none⟩) (World.block_lt_of_cell? _ _ hc)).trans hc⟩

theorem u64_tmod (n : Int) (m : Nat) (hm : 0 < m) (hm2 : m ≤ 4294967296) : ∃ N : Nat, N < m ∧ (IntKind.u64.wrap n).tmod m = N := by
  rw [IntKind.wrap_u64, tmod_of_emod]
  have h1 := Int.emod_nonneg (n % 18446744073709551616) (show (m : Int) ≠ 0 by omega)
  have h2 := Int.emod_lt_of_pos (n % 18446744073709551616) (show (0 : Int) < m by omega)
  exact ⟨(n % 18446744073709551616 % m).toNat, by omega, by omega⟩
theorem mod_one (n : Int) (m : Nat) (hm : 0 < m) (hm2 : m ≤ 4000) : ∃ N : Nat, 1 ≤ N ∧ N ≤ m ∧ wrap64 (1 + wrap64 ((IntKind.u64.wrap n).tmod m)) = N := by
  obtain ⟨N, h1, h2⟩ := u64_tmod n m hm (by omega)
  refine ⟨N + 1, by omega, by omega, ?_⟩
  rw [h2]
  unfold wrap64
  omega
theorem cnt_drop (f : Nat → Bool) (k n : Nat) (hk : k < n) : Pop.cnt (fun j => !(j == k) && f j) n + (f k).toNat = Pop.cnt f n := by
  induction n with
  | zero => omega
  | succ n ih =>
    show Pop.cnt _ n + (!(n == k) && f n).toNat + _ = Pop.cnt f n + (f n).toNat
    by_cases h : n = k
    · subst h
      have e : Pop.cnt (fun j => !(j == n) && f j) n = Pop.cnt f n := Pop.cnt_congr _ _ _ fun i hi => by
        have : (i == n) = false := by simp; omega
        simp [this]
      rw [e]
      simp
    · have h1 := ih (by omega)
      have : (n == k) = false := by simp [h]
      rw [this]
      simp
      omega
theorem cnt_all (n : Nat) : Pop.cnt (fun j => decide (j < n)) n = n := by
  have : ∀ m, m ≤ n → Pop.cnt (fun j => decide (j < n)) m = m := by
    intro m
    induction m with
    | zero => intro _; rfl
    | succ m ih =>
      intro h
      show Pop.cnt _ m + (decide (m < n)).toNat = m + 1
      rw [ih (by omega)]
      have : decide (m < n) = true := by simp; omega
      rw [this]
      rfl
  exact this n (Nat.le_refl _)
theorem Is.congr {w : World} {b n c : Nat} {f g : Nat → Bool} (h : Is w b n c f) (e : ∀ k, f k = g k) : Is w b n c g := by
  have : f = g := funext e
  rw [← this]
  exact h

theorem Ints.form {B : Nat} {w : World} {v : Value} {l : List Nat} (h : Ints B w v l) : ∃ ao c, v = .slice ao l.length c := by
  rcases h.2 with ⟨hv, hn⟩ | ⟨g, cap, cur, hv, _⟩
  · exact ⟨none, 0, by rw [hv, hn]⟩
  · exact ⟨_, _, hv⟩
end Go.Proofs.YtdihbeffomibeaaGreatDoor
namespace Go.Proofs.YtdihbeffomibeaaGreatDoor
set_option linter.unusedVariables false
set_option linter.unusedSimpArgs false
open Go.RowKit

theorem Tryz.info4 : (Tryz.prog.info? 4).map (fun i => (i.zero, i.size, i.bytes)) = some (some (.bool false), 1, 1) := by kernel_rfl
/-- The document's set of the numbers below n that f tells, in block b, its row in block c. -/
structure Ref (w : World) (b n c : Nat) (f : Nat → Bool) : Prop where
  ex : ∃ cur : Array Value, w.heap[b]? = some (.cells #[.slice (some ⟨c, 0, none⟩) n cur.size] 47) ∧ w.heap[c]? = some (.cells cur 4) ∧ n ≤ cur.size ∧ ∀ j, j < n → cur[j]? = some (.bool (f j))
  top : ∀ i, n ≤ i → f i = false
  bound : n ≤ 4096
/-- Blocks of other types are others. -/
theorem tags {w : World} {a b : Nat} {c1 c2 : Array Value} {t1 t2 : TypeId} (h1 : w.heap[a]? = some (.cells c1 t1)) (h2 : w.heap[b]? = some (.cells c2 t2)) (ht : t1 ≠ t2) : a ≠ b := by
  rintro rfl
  have e := h1.symm.trans h2
  injection e with e
  injection e with e1 e2
  exact ht e2
theorem Ref.later {w w' : World} {b n c : Nat} {f : Nat → Bool} (h : Ref w b n c f) (hb : Below w.heap.size w w') : Ref w' b n c f := by
  obtain ⟨cur, h1, h2, h3, h4⟩ := h.ex
  exact ⟨⟨cur, (hb.block b (blt h1)).trans h1, (hb.block c (blt h2)).trans h2, h3, h4⟩, h.top, h.bound⟩
theorem Ref.drewN {w : World} {b n c : Nat} {f : Nat → Bool} (h : Ref w b n c f) (q : Nat) : Ref (w.drewN q) b n c f := h.later (below_drewN (Below.refl _ _) q)
/-- A store into a set's words leaves the document's set. -/
theorem Ref.beside_set {w w' : World} {b n c : Nat} {f : Nat → Bool} (h : Ref w b n c f) {b' n' c' : Nat} {g : Nat → Bool} (hs : Is w b' n' c' g) (hb : Beside c' w w') : Ref w' b n c f := by
  obtain ⟨cur, h1, h2, h3, h4⟩ := h.ex
  obtain ⟨ws, s1, s2⟩ := hs.ex
  exact ⟨⟨cur, (hb.block b (blt h1) (tags h1 s1.row (by decide))).trans h1, (hb.block c (blt h2) (tags h2 s1.row (by decide))).trans h2, h3, h4⟩, h.top, h.bound⟩
theorem Is.beside_ref {w w' : World} {b n c : Nat} {f : Nat → Bool} (h : Is w b n c f) {b' n' c' : Nat} {g : Nat → Bool} (hs : Ref w b' n' c' g) (hb : Beside c' w w') : Is w' b n c f := by
  obtain ⟨cur, h1, h2, h3, h4⟩ := hs.ex
  obtain ⟨ws, s1, s2⟩ := h.ex
  exact h.beside hb (tags s1.box h2 (by decide)) (tags s1.row h2 (by decide))
theorem Is.beside_set {w w' : World} {b n c : Nat} {f : Nat → Bool} (h : Is w b n c f) {b' n' c' : Nat} {g : Nat → Bool} (hs : Is w b' n' c' g) (hc : c ≠ c') (hb : Beside c' w w') : Is w' b n c f := by
  obtain ⟨ws, s1, s2⟩ := h.ex
  obtain ⟨vs, v1, v2⟩ := hs.ex
  exact h.beside hb (tags s1.box v1.row (by decide)) hc
theorem Ref.beside_ref {w w' : World} {b n c : Nat} {f : Nat → Bool} (h : Ref w b n c f) {b' n' c' : Nat} {g : Nat → Bool} (hs : Ref w b' n' c' g) (hc : c ≠ c') (hb : Beside c' w w') : Ref w' b n c f := by
  obtain ⟨cur, h1, h2, h3, h4⟩ := h.ex
  obtain ⟨cur2, k1, k2, k3, k4⟩ := hs.ex
  exact ⟨⟨cur, (hb.block b (blt h1) (tags h1 k2 (by decide))).trans h1, (hb.block c (blt h2) hc).trans h2, h3, h4⟩, h.top, h.bound⟩

theorem made_bools (m : Nat) : madeCells #[Value.bool false] m = Array.replicate m (Value.bool false) := by
  apply Array.ext
  · simp [madeCells]
  · intro i h1 h2
    have h0 : i % 1 = 0 := by omega
    simp [madeCells, h0]
/-- What a walk reads of the document's set. -/
theorem Ref.cells {w : World} {b n c : Nat} {f : Nat → Bool} (h : Ref w b n c f) : ∃ cap, n ≤ cap ∧ w.cell? ⟨b, 0, none⟩ = some (.slice (some ⟨c, 0, none⟩) n cap) ∧ (∀ j, j < n → w.cell? ⟨c, j, none⟩ = some (.bool (f j))) ∧ ∀ j, w.frozen? ⟨c, j, none⟩ = false := by
  obtain ⟨cur, h1, h2, h3, h4⟩ := h.ex
  exact ⟨cur.size, h3, Lib.cell_of_heap h1 0, fun j hj => (Lib.cell_of_heap h2 j).trans (h4 j hj), fun j => Lib.frozen_of_heap h2 j⟩
theorem Ref.put {w : World} {b n c : Nat} {f : Nat → Bool} (h : Ref w b n c f) (j : Nat) (t : Bool) (hj : j < n) : Ref (w.setCell ⟨c, j, none⟩ (.bool t)) b n c (fun k => if k = j then t else f k) := by
  obtain ⟨cur, h1, h2, h3, h4⟩ := h.ex
  refine ⟨⟨cur.setIfInBounds j (.bool t), ?_, Go.Joins.block_setCell h2 _, by simpa using h3, fun k hk => ?_⟩, fun k hk => ?_, h.bound⟩
  · rw [Below.heap_setCell _ _ _ _ (tags h1 h2 (by decide))]
    simpa using h1
  · rw [Array.getElem?_setIfInBounds]
    by_cases e : j = k
    · subst e
      simp
      omega
    · rw [if_neg e, if_neg (fun e' => e e'.symm)]
      exact h4 k hk
  · rw [if_neg (by omega)]
    exact h.top k hk
end Go.Proofs.YtdihbeffomibeaaGreatDoor
namespace Go.Proofs.YtdihbeffomibeaaGreatDoor
set_option linter.unusedVariables false
set_option linter.unusedSimpArgs false
open Go.RowKit

/-- Some of the numbers, as it is put in, is k. -/
def hits (N : Nat) (zs : List Int) (k : Nat) : Bool := zs.any fun z => (IntKind.u64.wrap z).tmod N == (k : Int)
theorem hits_snoc (N : Nat) (zs : List Int) (z : Int) (M k : Nat) (h : (IntKind.u64.wrap z).tmod N = (M : Int)) : hits N (zs ++ [z]) k = (k == M || hits N zs k) := by
  unfold hits
  rw [List.any_append]
  simp only [List.any_cons, List.any_nil, Bool.or_false]
  rw [h, Bool.or_comm]
  congr 1
  rw [Bool.eq_iff_iff]
  simp
  omega
theorem take_snoc (zs : List Int) (k : Nat) (h : k < zs.length) : zs.take (k + 1) = zs.take k ++ [zs.getD k 0] := by
  rw [List.take_succ_eq_append_getElem h, List.getD_eq_getElem?_getD, List.getElem?_eq_getElem h]
  rfl

theorem Ints.arg {B : Nat} {w : World} {v : Value} {l : List Nat} (h : Ints B w v l) : ∃ ao c, v = .slice ao (l.map fun x : Nat => (x : Int)).length c ∧ ArgIn w ao (l.map fun x : Nat => (x : Int)) := by
  rcases h.2 with ⟨hv, hn⟩ | ⟨g, cap, cur, hv, hB, hg, hnc, hm, hs, ht⟩
  · refine ⟨none, 0, by rw [hv, List.length_map, hn], fun j hj => ?_⟩
    rw [List.length_map] at hj
    omega
  · refine ⟨_, _, by rw [hv, List.length_map], fun j hj => ⟨g, 0, rfl, ?_⟩⟩
    rw [List.length_map] at hj
    have h1 : (intsV l)[j]? = some (.int .i64 ((l.map fun x : Nat => (x : Int)).getD j 0)) := by
      unfold intsV
      simp [hj]
    rw [← ht, List.getElem?_take] at h1
    split at h1
    · rw [Nat.zero_add, Lib.cell_of_heap hg, ← h1]
      simp
    · cases h1
end Go.Proofs.YtdihbeffomibeaaGreatDoor
namespace Go.Proofs.YtdihbeffomibeaaGreatDoor
set_option linter.unusedVariables false
set_option linter.unusedSimpArgs false
open Go.RowKit

theorem lst_prefix (f : Nat → Bool) (p q : Nat) (h : p ≤ q) : ∃ r, lst f q = lst f p ++ r := by
  obtain ⟨m, rfl⟩ : ∃ m, q = p + m := ⟨q - p, by omega⟩
  clear h
  induction m with
  | zero => exact ⟨[], by simp⟩
  | succ m ih =>
    obtain ⟨r, hr⟩ := ih
    refine ⟨r ++ [p + m].filter f, ?_⟩
    unfold lst at *
    rw [← Nat.add_assoc, List.range_succ, List.filter_append, hr, List.append_assoc]
theorem lst_one (f : Nat → Bool) (k : Nat) : lst f (k + 1) = if f k then lst f k ++ [k] else lst f k := by
  unfold lst
  rw [List.range_succ, List.filter_append]
  cases h : f k <;> simp [h]
/-- Where a beginning of the list is what lies below p, the next one is what Next tells from p on. -/
theorem goes_step (f : Nat → Bool) (N p j : Nat) (r : Int) (t : Bool) (ht : ∀ i, N ≤ i → f i = false) (hp : p ≤ N) (hj : j < (lst f N).length) (he : lst f p = (lst f N).take j) (hn : NextIs f p r t) :
    t = true ∧ r = ((lst f N).getD j 0 : Nat) ∧ (lst f N).getD j 0 + 1 ≤ N ∧ lst f ((lst f N).getD j 0 + 1) = (lst f N).take (j + 1) := by
  have hlen : (lst f p).length = j := by rw [he, List.length_take]; omega
  rcases hn with ⟨rfl, x, rfl, hpx, hfx, hgap⟩ | ⟨rfl, rfl, hgap⟩
  · have hx : x < N := by
      rcases Nat.lt_or_ge x N with h | h
      · exact h
      · rw [ht x h] at hfx; cases hfx
    have h1 := lst_step f p x hpx hfx hgap
    obtain ⟨q, hq⟩ := lst_prefix f (x + 1) N (by omega)
    have h2 : (lst f N).getD j 0 = x := by
      rw [hq, h1, List.append_assoc, List.getD_eq_getElem?_getD, List.getElem?_append_right (by omega)]
      simp [hlen]
    rw [h2]
    refine ⟨rfl, rfl, by omega, ?_⟩
    rw [h1, hq, h1]
    have : j + 1 = (lst f p ++ [x]).length := by simp [hlen]
    rw [this, List.take_left]
  · exfalso
    have := lst_gap f p N hp (fun k h1 _ => hgap k h1)
    rw [this] at hj
    omega
theorem goes_end (f : Nat → Bool) (N p : Nat) (r : Int) (t : Bool) (ht : ∀ i, N ≤ i → f i = false) (hp : p ≤ N) (he : lst f p = lst f N) (hn : NextIs f p r t) : t = false := by
  rcases hn with ⟨rfl, x, rfl, hpx, hfx, hgap⟩ | ⟨rfl, rfl, hgap⟩
  · exfalso
    have hx : x < N := by
      rcases Nat.lt_or_ge x N with h | h
      · exact h
      · rw [ht x h] at hfx; cases hfx
    have h1 := lst_step f p x hpx hfx hgap
    obtain ⟨q, hq⟩ := lst_prefix f (x + 1) N (by omega)
    have h2 := congrArg List.length (hq.trans (by rw [h1, he]))
    simp at h2
  · rfl
theorem hits_none (N : Nat) (zs : List Int) (hN : 1 ≤ N) (hN2 : N ≤ 4096) : (zs.length = 0) ↔ ((lst (hits N zs) N).length = 0) := by
  constructor
  · intro h
    have : zs = [] := List.length_eq_zero_iff.1 h
    subst this
    have := lst_gap (hits N []) 0 N (by omega) (fun k _ _ => rfl)
    rw [this]
    rfl
  · intro h
    cases zs with
    | nil => rfl
    | cons z zs =>
      exfalso
      obtain ⟨M, hM, hz⟩ := u64_tmod z N (by omega) (by omega)
      have h1 : M ∈ lst (hits N (z :: zs)) N := by
        unfold lst hits
        rw [List.mem_filter]
        exact ⟨List.mem_range.2 hM, by simp [hz]⟩
      have : lst (hits N (z :: zs)) N = [] := List.length_eq_zero_iff.1 h
      rw [this] at h1
      cases h1

theorem is_zero (n : Nat) (h : n = 0) : ((n : Int) == 0) = true := by subst h; rfl
theorem not_zero (n : Nat) (h : n ≠ 0) : ((n : Int) == 0) = false := by simp; omega
end Go.Proofs.YtdihbeffomibeaaGreatDoor
namespace Go.Proofs.YtdihbeffomibeaaGreatDoor
set_option linter.unusedVariables false
set_option linter.unusedSimpArgs false
open Go.RowKit

theorem Ref.blt {w : World} {b n c : Nat} {f : Nat → Bool} (h : Ref w b n c f) : b < w.heap.size ∧ c < w.heap.size := by
  obtain ⟨cur, h1, h2, h3, h4⟩ := h.ex
  exact ⟨Go.Proofs.YtdihbeffomibeaaGreatDoor.blt h1, Go.Proofs.YtdihbeffomibeaaGreatDoor.blt h2⟩
theorem NextIs.unique {f : Nat → Bool} {i : Nat} {r r' : Int} {t t' : Bool} (h : NextIs f i r t) (h' : NextIs f i r' t') : r = r' ∧ t = t' := by
  rcases h with ⟨rfl, j, rfl, h1, h2, h3⟩ | ⟨rfl, rfl, h3⟩
  · rcases h' with ⟨rfl, k, rfl, k1, k2, k3⟩ | ⟨rfl, rfl, k3⟩
    · have : j = k := by
        rcases Nat.lt_trichotomy j k with h | h | h
        · have := k3 j h1 h
          rw [h2] at this
          cases this
        · exact h
        · have := h3 k k1 h
          rw [k2] at this
          cases this
      exact ⟨by rw [this], rfl⟩
    · have := k3 j h1
      rw [h2] at this
      cases this
  · rcases h' with ⟨rfl, k, rfl, k1, k2, k3⟩ | ⟨rfl, rfl, k3⟩
    · have := h3 k k1
      rw [k2] at this
      cases this
    · exact ⟨rfl, rfl⟩

/-- A row's cells. -/
def boolsV (f : Nat → Bool) (n : Nat) : List Value := (List.range n).map fun j => Value.bool (f j)
end Go.Proofs.YtdihbeffomibeaaGreatDoor
namespace Go.Proofs.YtdihbeffomibeaaGreatDoor
set_option linter.unusedVariables false
set_option linter.unusedSimpArgs false
open Go.RowKit

theorem or_c (x y : Nat) (w : World) (hx : x < 18446744073709551616) (hy : y < 18446744073709551616) : Calls Tryz.prog 90 #[.int .u64 x, .int .u64 y] w fun e w' => e = .returned (.int .u64 (x ||| y : Nat)) ∧ w = w' := by
  have h := u64_or_nat x y hx hy
  go_enter Tryz.func90, Tryz.ntmps90
  go_wp2
  go_ret
  exact ⟨rfl, rfl⟩
theorem ne_cast (z x : Nat) : ((z : Int) != (x : Int)) = (z != x) := by
  rw [Bool.eq_iff_iff]
  simp
  omega

/-- How words are joined, and how bits are. -/
structure Joins (op : Nat → Nat → Nat) (opB : Bool → Bool → Bool) : Prop where
  bit : ∀ x y i, (op x y).testBit i = opB (x.testBit i) (y.testBit i)
  small : ∀ x y, x < 18446744073709551616 → y < 18446744073709551616 → op x y < 18446744073709551616
  none : opB false false = false
theorem joins_or : Joins (fun x y => x ||| y) (fun a b => a || b) := ⟨fun x y i => Nat.testBit_or x y i, fun x y hx hy => Nat.or_lt_two_pow (n := 64) hx hy, rfl⟩
theorem joins_and : Joins (fun x y => x &&& y) (fun a b => a && b) := ⟨fun x y i => Nat.testBit_and x y i, fun x y hx hy => Nat.lt_of_le_of_lt Nat.and_le_left hx, rfl⟩

/-- Some word below k is other than it was. -/
def chg (op : Nat → Nat → Nat) (ws vs : List Nat) (k : Nat) : Bool := (List.range k).any fun j => op (ws.getD j 0) (vs.getD j 0) != ws.getD j 0
theorem chg_succ (op : Nat → Nat → Nat) (ws vs : List Nat) (k : Nat) : chg op ws vs (k + 1) = (chg op ws vs k || op (ws.getD k 0) (vs.getD k 0) != ws.getD k 0) := by
  unfold chg
  rw [List.range_succ, List.any_append]
  simp
/-- The first k words are joined, the others as they were. -/
def Half (op : Nat → Nat → Nat) (ws vs us : List Nat) (k : Nat) : Prop := ∀ j, us.getD j 0 = if j < k then op (ws.getD j 0) (vs.getD j 0) else ws.getD j 0
theorem Half.start (op : Nat → Nat → Nat) (ws vs : List Nat) : Half op ws vs ws 0 := fun j => by rw [if_neg (by omega)]
theorem Half.step {op : Nat → Nat → Nat} {ws vs us : List Nat} {k : Nat} (h : Half op ws vs us k) (hk : k < us.length) : Half op ws vs (us.set k (op (ws.getD k 0) (vs.getD k 0))) (k + 1) := fun j => by
  rw [List.getD_eq_getElem?_getD, List.getElem?_set]
  by_cases e : k = j
  · subst e
    rw [if_pos rfl, if_pos hk, if_pos (by omega)]
    rfl
  · rw [if_neg e, ← List.getD_eq_getElem?_getD, h j]
    by_cases h1 : j < k
    · rw [if_pos h1, if_pos (by omega)]
    · rw [if_neg h1, if_neg (by omega)]
theorem Half.bit {op : Nat → Nat → Nat} {opB : Bool → Bool → Bool} (J : Joins op opB) {ws vs us : List Nat} (h : Half op ws vs us ws.length) (hl : vs.length = ws.length) (i : Nat) : bit us i = opB (bit ws i) (bit vs i) := by
  unfold Go.Proofs.YtdihbeffomibeaaGreatDoor.bit
  rw [h]
  split
  · exact J.bit _ _ _
  · rename_i hn
    have e1 : ws.getD (i / 64) 0 = 0 := by rw [List.getD_eq_getElem?_getD, List.getElem?_eq_none (by omega)]; rfl
    have e2 : vs.getD (i / 64) 0 = 0 := by rw [List.getD_eq_getElem?_getD, List.getElem?_eq_none (by omega)]; rfl
    rw [e1, e2]
    simp [J.none]
theorem chg_iff {op : Nat → Nat → Nat} {opB : Bool → Bool → Bool} (J : Joins op opB) (ws vs : List Nat) (hl : vs.length = ws.length) (h1 : ∀ j, ws.getD j 0 < 18446744073709551616) (h2 : ∀ j, vs.getD j 0 < 18446744073709551616) :
    chg op ws vs ws.length = true ↔ ∃ i, opB (bit ws i) (bit vs i) ≠ bit ws i := by
  unfold chg
  rw [List.any_eq_true]
  constructor
  · rintro ⟨j, hj, hne⟩
    have hne' : op (ws.getD j 0) (vs.getD j 0) ≠ ws.getD j 0 := by simpa using hne
    apply Classical.byContradiction
    intro hall
    apply hne'
    apply Nat.eq_of_testBit_eq
    intro k
    rw [J.bit]
    by_cases hk : k < 64
    · have h := Classical.byContradiction fun h' => hall ⟨64 * j + k, h'⟩
      have e1 : (64 * j + k) / 64 = j := by omega
      have e2 : (64 * j + k) % 64 = k := by omega
      unfold Go.Proofs.YtdihbeffomibeaaGreatDoor.bit at h
      rw [e1, e2] at h
      exact h
    · rw [Nat.testBit_lt_two_pow (Nat.lt_of_lt_of_le (h1 j) (Nat.pow_le_pow_right (n := 2) (i := 64) (by decide) (by omega))), Nat.testBit_lt_two_pow (Nat.lt_of_lt_of_le (h2 j) (Nat.pow_le_pow_right (n := 2) (i := 64) (by decide) (by omega)))]
      exact J.none
  · rintro ⟨i, hi⟩
    have hj : i / 64 < ws.length := by
      rcases Nat.lt_or_ge (i / 64) ws.length with h | h
      · exact h
      · exfalso
        apply hi
        unfold Go.Proofs.YtdihbeffomibeaaGreatDoor.bit
        have e1 : ws.getD (i / 64) 0 = 0 := by rw [List.getD_eq_getElem?_getD, List.getElem?_eq_none (by omega)]; rfl
        have e2 : vs.getD (i / 64) 0 = 0 := by rw [List.getD_eq_getElem?_getD, List.getElem?_eq_none (by omega)]; rfl
        rw [e1, e2]
        simp [J.none]
    refine ⟨i / 64, List.mem_range.2 hj, ?_⟩
    simp only [bne_iff_ne, ne_eq]
    intro e
    apply hi
    unfold Go.Proofs.YtdihbeffomibeaaGreatDoor.bit
    rw [← J.bit, e]

set_option maxHeartbeats 2000000 in
theorem merge_or (b n c : Nat) (ws : List Nat) (b2 c2 : Nat) (vs : List Nat) (w : World) (h : SetAt w b n c ws) (h' : SetAt w b2 n c2 vs) (hb : b2 ≠ c) (hc : c2 ≠ c) :
    Calls Tryz.prog 89 #[.pointer (some ⟨b, 0, none⟩), .pointer (some ⟨b2, 0, none⟩), .func (.func 90) #[] #[]] w fun e w' => e = .returned (.tuple #[.bool (chg (fun x y => x ||| y) ws vs ws.length), .int .i64 0]) ∧ (∃ us, SetAt w' b n c us ∧ Half (fun x y => x ||| y) ws vs us ws.length) ∧ Beside c w w' ∧ w'.heap.size = w.heap.size := by
  have c0 := h.c0
  have d0 := h'.c0
  have c1 := h.c1
  have d1 := h'.c1
  have d2 := h'.c2
  have hlv : vs.length = ws.length := by rw [h.len, h'.len]
  rw [hlv] at d2
  have hm : (ws.length : Int) ≤ 64 := by have := h.len; have := h.bound; omega
  have hnn : ((n : Int) == (n : Int)) = true := by simp
  have W := hid h
  have V := hid h'
  have M0 := hid (isMade_at b true w c0)
  have M1 := hid (isMade_at b2 true w d0)
  clear h h' c0 d0
  go_enter Tryz.func89, Tryz.ntmps89
  go_wp2_with fail
  refine M0.out.mono ?_
  rintro e w' ⟨rfl, rfl⟩
  go_wp2_with fail
  refine M1.out.mono ?_
  rintro e w' ⟨rfl, rfl⟩
  go_wp2_with fail
  go_quiet (fail)
  go_wp2_with fail
  clear c1 d1 d2 M0 M1
  go_loopg [8, 9, 10, 11, 34] ws.length (fun g ch _ _ _ i wr => ∃ (k : Nat) (us : List Nat), k ≤ ws.length ∧ ws.length - k ≤ g ∧ i = .int .i64 k ∧ ch = .bool (chg (fun x y => x ||| y) ws vs k) ∧ Aside (SetAt wr b n c us) ∧ Aside (Half (fun x y => x ||| y) ws vs us k) ∧ Aside (Beside c w wr) ∧ Aside (wr.heap.size = w.heap.size))
  case atStart => exact ⟨0, ws, Nat.zero_le _, by omega, rfl, rfl, W.out.later (below_drewN (Below.refl _ _) _), Half.start _ _ _, (Beside.refl _ _).drewN _, rfl⟩
  case round =>
    obtain ⟨k, us, hk, hg, rfl, rfl, SX, HX, BX, ZX⟩ := hrel
    by_cases hlt : k < ws.length
    · have hlu : us.length = ws.length := by rw [SX.out.len, W.out.len]
      have hlti : (k : Int) < ws.length := by omega
      have VX := V.out.beside BX.out hb hc
      have e2 := SX.out.c2
      rw [hlu] at e2
      have ex := SX.out.word k (by omega)
      have efr := SX.out.free k
      have eux : us.getD k 0 = ws.getD k 0 := by rw [HX.out k, if_neg (by omega)]
      rw [eux] at ex
      have ey := VX.word k (by omega)
      have hx := W.out.lt k
      have hy := V.out.lt k
      have HS := hid (HX.out.step (by omega))
      have HC := hid (chg_succ (fun x y => x ||| y) ws vs k)
      have SP := hid (SX.out.put k ((fun x y => x ||| y) (ws.getD k 0) (vs.getD k 0)) (joins_or.small _ _ hx hy))
      have hcall := hid (fun W' => or_c (ws.getD k 0) (vs.getD k 0) W' hx hy)
      have BP := hid (BX.out.setCell (p := ⟨c, k, none⟩) rfl (.int .u64 ((fun x y => x ||| y) (ws.getD k 0) (vs.getD k 0) : Nat)))
      clear VX eux
      generalize chg (fun x y => x ||| y) ws vs k = t at *
      generalize ws.getD k 0 = x at *
      generalize vs.getD k 0 = y at *
      simp only [] at HS HC SP hcall BP
      generalize (x ||| y) = z at *
      cases t
      · by_cases hzx : z = x
        · have q : ((z : Int) == (x : Int)) = true := by simp; omega
          have HZX := hid hzx
          clear hzx
          go_wp2_with (go_at_call 90; refine (hcall.out _).mono ?_; rintro e w' ⟨rfl, rfl⟩)
          go_roundg (ws.length - (k + 1))
          · exact ⟨k + 1, _, by omega, by omega, by go_num, by rw [HC.out]; first | (simp [HZX.out]; done) | (simp [HZX.out]; exact ne_cast _ _), SP.out, HS.out, BP.out, by simp [World.setCell]; exact ZX.out⟩
          · omega
        · have q : ((z : Int) == (x : Int)) = false := by simp; omega
          have HZX := hid hzx
          clear hzx
          go_wp2_with (go_at_call 90; refine (hcall.out _).mono ?_; rintro e w' ⟨rfl, rfl⟩)
          go_roundg (ws.length - (k + 1))
          · exact ⟨k + 1, _, by omega, by omega, by go_num, by rw [HC.out]; first | (simp [HZX.out]; done) | (simp [HZX.out]; exact ne_cast _ _), SP.out, HS.out, BP.out, by simp [World.setCell]; exact ZX.out⟩
          · omega
      · go_wp2_with (go_at_call 90; refine (hcall.out _).mono ?_; rintro e w' ⟨rfl, rfl⟩)
        go_roundg (ws.length - (k + 1))
        · exact ⟨k + 1, _, by omega, by omega, by go_num, by rw [HC.out]; simp, SP.out, HS.out, BP.out, by simp [World.setCell]; exact ZX.out⟩
        · omega
    · have hlti : ¬ (k : Int) < ws.length := by omega
      have ek : ws.length = k := by omega
      have HX2 := HX.out
      rw [← ek] at HX2
      have HX3 := hid HX2
      clear HX2
      rw [← ek]
      clear ek
      go_wp2_with fail
      go_ret2
      exact ⟨rfl, ⟨us, SX.out, HX3.out⟩, BX.out, ZX.out⟩
theorem or_is (b n c : Nat) (f : Nat → Bool) (b2 c2 : Nat) (g : Nat → Bool) (w : World) (h : Is w b n c f) (h' : Is w b2 n c2 g) (hb : b2 ≠ c) (hc : c2 ≠ c) :
    Calls Tryz.prog 76 #[.pointer (some ⟨b, 0, none⟩), .pointer (some ⟨b2, 0, none⟩)] w fun e w' => (∃ t : Bool, e = .returned (.tuple #[.bool t, .int .i64 0]) ∧ (t = true ↔ ∃ i, (f i || g i) ≠ f i)) ∧ Is w' b n c (fun i => f i || g i) ∧ Beside c w w' ∧ w'.heap.size = w.heap.size := by
  obtain ⟨ws, s1, s2⟩ := h.ex
  obtain ⟨vs, v1, v2⟩ := h'.ex
  have hlv : vs.length = ws.length := by rw [s1.len, v1.len]
  have M := hid (merge_or b n c ws b2 c2 vs w s1 v1 hb hc)
  have CI := hid (chg_iff joins_or ws vs hlv s1.lt v1.lt)
  have HB := hid (fun us (hh : Half (fun x y => x ||| y) ws vs us ws.length) i => Half.bit joins_or hh hlv i)
  have H := hid h
  have H' := hid h'
  have S2 := hid s2
  have V2 := hid v2
  clear h h' s1 v1 s2 v2
  go_enter Tryz.func76, Tryz.ntmps76
  go_wp2_with (go_at_call 89; refine M.out.mono ?_; rintro e w' ⟨rfl, ⟨us, u1, u2⟩, bs, zs⟩)
  go_ret2
  refine ⟨⟨_, rfl, ?_⟩, ⟨⟨us, u1, fun i => ?_⟩, fun i hi => ?_⟩, bs, zs⟩
  · rw [CI.out]
    simp only [S2.out, V2.out]
  · rw [HB.out us u2 i]
    simp only [S2.out, V2.out]
  · have e1 := H.out.top i hi
    have e2 := H'.out.top i hi
    simp [e1, e2]
end Go.Proofs.YtdihbeffomibeaaGreatDoor
namespace Go.Proofs.YtdihbeffomibeaaGreatDoor
set_option linter.unusedVariables false
set_option linter.unusedSimpArgs false
open Go.RowKit

/-- Some number below k is other than it was. -/
def chB (f h : Nat → Bool) (k : Nat) : Bool := (List.range k).any fun j => f j != h j
theorem chB_succ (f h : Nat → Bool) (k : Nat) : chB f h (k + 1) = (chB f h k || f k != h k) := by
  unfold chB
  rw [List.range_succ, List.any_append]
  simp
theorem chB_iff (f h : Nat → Bool) (n : Nat) (h1 : ∀ i, n ≤ i → f i = h i) : chB f h n = true ↔ ∃ i, h i ≠ f i := by
  unfold chB
  rw [List.any_eq_true]
  constructor
  · rintro ⟨j, _, hj⟩
    exact ⟨j, fun e => by simp [e] at hj⟩
  · rintro ⟨j, hj⟩
    have : j < n := by
      rcases Nat.lt_or_ge j n with h | h
      · exact h
      · exact absurd (h1 j h).symm hj
    exact ⟨j, List.mem_range.2 this, by simp; exact fun e => hj e.symm⟩
theorem Ref.congr {w : World} {b n c : Nat} {f g : Nat → Bool} (h : Ref w b n c f) (e : ∀ k, f k = g k) : Ref w b n c g := by
  have : f = g := funext e
  rw [← this]
  exact h

theorem merge_off (b n c : Nat) (f : Nat → Bool) (b2 n2 c2 : Nat) (g : Nat → Bool) (w : World) (v : Value) (h : Is w b n c f) (h' : Is w b2 n2 c2 g) (hn : n ≠ n2) :
    Calls Tryz.prog 89 #[.pointer (some ⟨b, 0, none⟩), .pointer (some ⟨b2, 0, none⟩), v] w fun e w' => e = .returned (.tuple #[.bool false, .int .i64 1]) ∧ ∃ q, w' = w.drewN q := by
  obtain ⟨ws, s1, s2⟩ := h.ex
  obtain ⟨vs, v1, v2⟩ := h'.ex
  have c1 := s1.c1
  have d1 := v1.c1
  have hnn : ((n : Int) == (n2 : Int)) = false := by simp; omega
  have M0 := hid (isMade_at b true w s1.c0)
  have M1 := hid (isMade_at b2 true w v1.c0)
  clear h h' s1 v1 s2 v2 hn
  go_enter Tryz.func89, Tryz.ntmps89
  go_wp2_with fail
  refine M0.out.mono ?_
  rintro e w' ⟨rfl, rfl⟩
  go_wp2_with fail
  refine M1.out.mono ?_
  rintro e w' ⟨rfl, rfl⟩
  go_wp2_with fail
  go_quiet (fail)
  go_wp2_with fail
  go_ret2
  exact ⟨rfl, _, rfl⟩
theorem or_off (b n c : Nat) (f : Nat → Bool) (b2 n2 c2 : Nat) (g : Nat → Bool) (w : World) (h : Is w b n c f) (h' : Is w b2 n2 c2 g) (hn : n ≠ n2) :
    Calls Tryz.prog 76 #[.pointer (some ⟨b, 0, none⟩), .pointer (some ⟨b2, 0, none⟩)] w fun e w' => e = .returned (.tuple #[.bool false, .int .i64 1]) ∧ ∃ q, w' = w.drewN q := by
  have M := hid (fun v => merge_off b n c f b2 n2 c2 g w v h h' hn)
  clear h h'
  go_enter Tryz.func76, Tryz.ntmps76
  go_wp2_with (go_at_call 89; refine (M.out _).mono ?_; rintro e w' ⟨rfl, q, rfl⟩)
  go_ret2
  exact ⟨rfl, _, rfl⟩
end Go.Proofs.YtdihbeffomibeaaGreatDoor
