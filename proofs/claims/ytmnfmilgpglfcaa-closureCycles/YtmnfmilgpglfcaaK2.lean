/-
  Rows of sets: what they look like in memory; newRows, there, ahead.
-/
import Derived.Test.YtmnfmilgpglfcaaK1
import Derived.Test.YtmnfmilgpglfcaaCl
namespace Go.Proofs.Ytmnfmilgpglfcaa
set_option linter.unusedVariables false
set_option linter.unusedSimpArgs false
open Go.RowKit

theorem Try.info52 : (Try.prog.info? 43).map (fun i => (i.zero, i.size, i.bytes)) = some (some (.pointer none), 1, 8) := by kernel_rfl
theorem made_ptrs (m : Nat) : madeCells #[Value.pointer none] m = Array.replicate m (Value.pointer none) := by
  apply Array.ext
  · simp [madeCells]
  · intro i h1 h2
    have h0 : i % 1 = 0 := by omega
    simp [madeCells, h0]
/-- n sets of bound n, their pointers in block r. -/
structure RowsAt (w : World) (r n : Nat) (bk ck : Nat → Nat) (R : Nat → Nat → Bool) : Prop where
  row : ∃ cur : Array Value, w.heap[r]? = some (.cells cur 43) ∧ cur.size = n ∧ ∀ k, k < n → cur[k]? = some (.pointer (some ⟨bk k, 0, none⟩))
  sets : ∀ k, k < n → Is w (bk k) n (ck k) (R k)
  apart : ∀ k k', k < n → k' < n → k ≠ k' → ck k ≠ ck k'
theorem RowsAt.later {w w' : World} {r n : Nat} {bk ck : Nat → Nat} {R : Nat → Nat → Bool} (h : RowsAt w r n bk ck R) (hb : Below w.heap.size w w') : RowsAt w' r n bk ck R := by
  obtain ⟨cur, h1, h2⟩ := h.row
  exact ⟨⟨cur, (hb.block r (blt h1)).trans h1, h2⟩, fun k hk => (h.sets k hk).later hb, h.apart⟩
/-- The blocks of the words. -/
def Wds (n : Nat) (ck : Nat → Nat) (x : Nat) : Prop := ∃ k, k < n ∧ x = ck k
theorem Is.words {w : World} {b n c : Nat} {f : Nat → Bool} (h : Is w b n c f) : ∃ cs, w.heap[c]? = some (.cells cs 53) := by
  obtain ⟨ws, h1, _⟩ := h.ex
  exact ⟨_, h1.row⟩
theorem RowsAt.not_words {w : World} {r n : Nat} {bk ck : Nat → Nat} {R : Nat → Nat → Bool} (h : RowsAt w r n bk ck R) {x : Nat} {cs : Array Value} {t : TypeId} (hx : w.heap[x]? = some (.cells cs t)) (ht : t ≠ 53) : ¬ Wds n ck x := by
  rintro ⟨k, hk, rfl⟩
  obtain ⟨cs', h1⟩ := (h.sets k hk).words
  exact tags hx h1 ht rfl
theorem Is.gro {P : Nat → Prop} {w w' : World} {b n c : Nat} {f : Nat → Bool} (h : Is w b n c f) (hg : Gro P w w') (hb : ¬ P b) (hc : ¬ P c) : Is w' b n c f := by
  obtain ⟨ws, h1, h2⟩ := h.ex
  exact ⟨⟨ws, ⟨hg.at h1.box hb, hg.at h1.row hc, h1.len, h1.small, h1.bound⟩, h2⟩, h.top⟩
theorem RowsAt.gro {P : Nat → Prop} {w w' : World} {r n : Nat} {bk ck : Nat → Nat} {R : Nat → Nat → Bool} (h : RowsAt w r n bk ck R) (hg : Gro P w w') (hr : ¬ P r) (hb : ∀ k, k < n → ¬ P (bk k)) (hc : ∀ k, k < n → ¬ P (ck k)) : RowsAt w' r n bk ck R := by
  obtain ⟨cur, h1, h2⟩ := h.row
  exact ⟨⟨cur, hg.at h1 hr, h2⟩, fun k hk => (h.sets k hk).gro hg (hb k hk) (hc k hk), h.apart⟩
theorem RowsAt.congr {w : World} {r n : Nat} {bk ck : Nat → Nat} {R S : Nat → Nat → Bool} (h : RowsAt w r n bk ck R) (e : ∀ i j, i < n → R i j = S i j) : RowsAt w r n bk ck S :=
  ⟨h.row, fun k hk => (h.sets k hk).congr (fun j => e k j hk), h.apart⟩
theorem RowsAt.cell {w : World} {r n : Nat} {bk ck : Nat → Nat} {R : Nat → Nat → Bool} (h : RowsAt w r n bk ck R) (k : Nat) (hk : k < n) : w.cell? ⟨r, k, none⟩ = some (.pointer (some ⟨bk k, 0, none⟩)) := by
  obtain ⟨cur, h1, h2, h3⟩ := h.row
  exact (Lib.cell_of_heap h1 k).trans (h3 k hk)

/-- Rows that are made: the first k sets are. -/
structure RMade (H n k : Nat) (w : World) : Prop where
  size : w.heap.size = H + 1 + 2 * k
  row : ∃ cur : Array Value, w.heap[H]? = some (.cells cur 43) ∧ cur.size = n ∧ (∀ j, j < k → cur[j]? = some (.pointer (some ⟨H + 2 + 2 * j, 0, none⟩))) ∧ ∃ v, k < n → cur[k]? = some v
  sets : ∀ j, j < k → Is w (H + 2 + 2 * j) n (H + 1 + 2 * j) (fun _ => false)
theorem RMade.rows {H n : Nat} {w : World} (h : RMade H n n w) : RowsAt w H n (fun k => H + 2 + 2 * k) (fun k => H + 1 + 2 * k) (fun _ _ => false) := by
  obtain ⟨cur, h1, h2, h3, _⟩ := h.row
  exact ⟨⟨cur, h1, h2, h3⟩, h.sets, fun k k' _ _ hne => by omega⟩
theorem RMade.next {H n k : Nat} {w wa : World} (h : RMade H n k w) (hk : k < n) (sa : Is wa (w.heap.size + 1) n w.heap.size (fun _ => false)) (ba : Below w.heap.size w wa) (za : wa.heap.size = w.heap.size + 2) :
    RMade H n (k + 1) (wa.setCell ⟨H, k, none⟩ (.pointer (some ⟨w.heap.size + 1, 0, none⟩))) := by
  obtain ⟨cur, h1, h2, h3, h4⟩ := h.row
  have hs := h.size
  have hH : H < w.heap.size := by omega
  have hb : Beside H wa (wa.setCell ⟨H, k, none⟩ (.pointer (some ⟨w.heap.size + 1, 0, none⟩))) := (Beside.refl H wa).setCell (p := ⟨H, k, none⟩) rfl _
  have r1 : wa.heap[H]? = some (.cells cur 43) := (ba.block H hH).trans h1
  refine ⟨by simp [World.setCell]; omega, ⟨cur.setIfInBounds k (.pointer (some ⟨w.heap.size + 1, 0, none⟩)), Go.Joins.block_setCell r1 _, by simpa using h2, fun j hj => ?_, ?_⟩, fun j hj => ?_⟩
  · rw [Array.getElem?_setIfInBounds]
    by_cases e : k = j
    · subst e
      rw [if_pos rfl, if_pos (by omega)]
      congr 4
      omega
    · rw [if_neg e]
      exact h3 j (by omega)
  · by_cases hk1 : k + 1 < n
    · refine ⟨cur[k + 1]'(by omega), fun _ => ?_⟩
      rw [Array.getElem?_setIfInBounds, if_neg (by omega), Array.getElem?_eq_getElem]
    · exact ⟨.bool true, fun h => absurd h hk1⟩
  · by_cases e : j = k
    · subst e
      have e1 : H + 2 + 2 * j = w.heap.size + 1 := by omega
      have e2 : H + 1 + 2 * j = w.heap.size := by omega
      rw [e1, e2]
      exact sa.beside hb (by omega) (by omega)
    · exact ((h.sets j (by omega)).later ba).beside hb (by omega) (by omega)

set_option maxHeartbeats 4000000 in
theorem newRows_is (n : Nat) (hn : n ≤ 300) (w : World) : Calls Try.prog 16 #[.int .i64 n] w fun e w' => e = .returned (.slice (some ⟨w.heap.size, 0, none⟩) n n) ∧ RowsAt w' w.heap.size n (fun k => w.heap.size + 2 + 2 * k) (fun k => w.heap.size + 1 + 2 * k) (fun _ _ => false) ∧ Below w.heap.size w w' ∧ w'.heap.size = w.heap.size + 1 + 2 * n := by
  have hmk := run_make_row' (P := Try.prog) 40 43 (.pointer none) 8 Try.underlying40 Try.info52 rfl .i64 .i64 n (by omega) (by omega)
  have h0 : (0 : Int) ≤ n := by omega
  have h1 : (n : Int) ≤ 300 := by omega
  rw [made_ptrs] at hmk
  go_enter Try.func16, Try.ntmps16
  go_wp2_with fail
  have M0 : Hid (RMade w.heap.size n 0 (w.alloc (.cells (Array.replicate n (Value.pointer none)) 43))) := by
    refine ⟨by simp, ⟨Array.replicate n (Value.pointer none), heap_alloc_new w _, by simp, fun j hj => by omega, .pointer none, fun h => by rw [Array.getElem?_replicate, if_pos h]⟩, fun j hj => by omega⟩
  have B0 : Hid (Below w.heap.size w (w.alloc (.cells (Array.replicate n (Value.pointer none)) 43))) := below_box w _
  clear hmk
  generalize w.alloc (.cells (Array.replicate n (Value.pointer none)) 43) = W0 at *
  go_loopg [4, 9] n (fun g _ i wr => ∃ k : Nat, k ≤ n ∧ n - k ≤ g ∧ i = .int .i64 k ∧ Aside (RMade w.heap.size n k wr) ∧ Aside (Below w.heap.size w wr))
  case atStart => exact ⟨0, Nat.zero_le _, by omega, rfl, M0.out, B0.out⟩
  case round =>
    obtain ⟨k, hk, hg, rfl, MX, BX⟩ := hrel
    by_cases hlt : k < n
    · have hlti : (k : Int) < (n : Int) := by omega
      obtain ⟨cur, r1, r2, r3, v, r4⟩ := MX.out.row
      have rk := r4 hlt
      have ck : wr.cell? ⟨w.heap.size, k, none⟩ = some v := (Lib.cell_of_heap r1 k).trans rk
      have fk : wr.frozen? ⟨w.heap.size, k, none⟩ = false := Lib.frozen_of_heap r1 k
      have hsz := hid MX.out.size
      clear r1 r2 r3 r4 rk
      go_wp2_with (go_at_call 21; refine (new_is n (by omega) _).mono ?_; rintro e wa ⟨rfl, sa, ba, za⟩; have SA := hid sa; have BA := hid ba; have ZA := hid za; have ck2 : wa.cell? ⟨w.heap.size, k, none⟩ = some v := (ba.cell (p := ⟨w.heap.size, k, none⟩) (by have := hsz.out; show w.heap.size < wr.heap.size; omega)).trans ck; have fk2 : wa.frozen? ⟨w.heap.size, k, none⟩ = false := (ba.frozen (p := ⟨w.heap.size, k, none⟩) (by have := hsz.out; show w.heap.size < wr.heap.size; omega)).trans fk; clear sa ba za)
      have MN := hid (MX.out.next hlt SA.out BA.out ZA.out)
      go_roundg (n - (k + 1))
      · exact ⟨k + 1, by omega, by omega, by go_num, MN.out, (BX.out.trans (BA.out.mono BX.out.size)).setCell (Nat.le_refl _) _⟩
      · omega
    · have hlti : ¬ (k : Int) < (n : Int) := by omega
      obtain rfl : k = n := by omega
      go_wp2_with fail
      go_ret
      exact ⟨rfl, MX.out.rows, BX.out, MX.out.size⟩

theorem rthere_ok (ao : Option Addr) (n cp : Nat) (i : Nat) (w : World) (hi : i < n) : Calls Try.prog 17 #[.slice ao n cp, .int .i64 i] w fun e w' => e = .returned (.bool true) ∧ w = w' := by
  have h1 : (0 : Int) ≤ i := by omega
  have h2 : (i : Int) < n := by omega
  go_enter Try.func17, Try.ntmps17
  go_wp2
  go_ret
  exact ⟨rfl, rfl⟩
theorem rthere_no (ao : Option Addr) (n cp : Nat) (i : Int) (w : World) (hi : i < 0 ∨ (n : Int) ≤ i) : Calls Try.prog 17 #[.slice ao n cp, .int .i64 i] w fun e w' => e = .returned (.bool false) ∧ w = w' := by
  rcases hi with h | h
  · have h1 : ¬ (0 : Int) ≤ i := by omega
    have h2 : decide (0 ≤ i) = false := by simp; omega
    go_enter Try.func17, Try.ntmps17
    go_wp2
    go_ret
    exact ⟨rfl, rfl⟩
  · have h1 : (0 : Int) ≤ i := by omega
    have h2 : ¬ i < (n : Int) := by omega
    go_enter Try.func17, Try.ntmps17
    go_wp2
    go_ret
    exact ⟨rfl, rfl⟩
/-- One stands ahead of another, whatever numbers they are. -/
def ahd (R : Nat → Nat → Bool) (n : Nat) (a b : Int) : Bool := decide (0 ≤ a) && decide (a < n) && decide (0 ≤ b) && decide (b < n) && R a.toNat b.toNat
theorem ahd_nat (R : Nat → Nat → Bool) (n a b : Nat) (ha : a < n) (hb : b < n) : ahd R n a b = R a b := by
  unfold ahd
  simp [ha, hb]
theorem ahd_off1 (R : Nat → Nat → Bool) (n : Nat) (a b : Int) (h : a < 0 ∨ (n : Int) ≤ a) : ahd R n a b = false := by
  unfold ahd
  rcases h with h | h
  · have : decide (0 ≤ a) = false := by simp; omega
    simp [this]
  · have : decide (a < n) = false := by simp; omega
    simp [this]
theorem ahd_off2 (R : Nat → Nat → Bool) (n : Nat) (a b : Int) (h : b < 0 ∨ (n : Int) ≤ b) : ahd R n a b = false := by
  unfold ahd
  rcases h with h | h
  · have : decide (0 ≤ b) = false := by simp; omega
    simp [this]
  · have : decide (b < n) = false := by simp; omega
    simp [this]
set_option maxHeartbeats 1000000 in
theorem ahead_any (r n : Nat) (bk ck : Nat → Nat) (R : Nat → Nat → Bool) (a b : Int) (w : World) (h : RowsAt w r n bk ck R) (hn : n ≤ 300) :
    Calls Try.prog 13 #[.slice (some ⟨r, 0, none⟩) n n, .int .i64 a, .int .i64 b] w fun e w' => e = .returned (.bool (ahd R n a b)) ∧ w = w' := by
  have HR := hid h
  clear h
  by_cases ha : a < 0 ∨ (n : Int) ≤ a
  · rw [ahd_off1 R n a b ha]
    have T := hid (rthere_no (some ⟨r, 0, none⟩) n n a w ha)
    clear ha
    go_enter Try.func13, Try.ntmps13
    go_wp2_with (go_at_call 17; refine T.out.mono ?_; rintro e w' ⟨rfl, rfl⟩)
    go_ret
    exact ⟨rfl, rfl⟩
  · obtain ⟨A, rfl⟩ : ∃ A : Nat, a = A := ⟨a.toNat, by omega⟩
    have hA : A < n := by omega
    have h1 : (A : Int) < n := by omega
    have h2 : (0 : Int) ≤ A := by omega
    have hni : (n : Int) ≤ 300 := by omega
    have ck' := HR.out.cell A hA
    have T := hid (rthere_ok (some ⟨r, 0, none⟩) n n A w hA)
    have S := hid (HR.out.sets A hA)
    by_cases hb : b < 0 ∨ (n : Int) ≤ b
    · have HB := hid (ahd_off2 R n A b hb)
      have HO := hid (has_off _ _ _ _ b w S.out hb)
      clear ha hb
      go_enter Try.func13, Try.ntmps13
      go_wp2_with (first | (go_at_call 17; refine T.out.mono ?_; rintro e w' ⟨rfl, rfl⟩) | (go_at_call 14; refine HO.out.mono ?_; rintro e w' ⟨rfl, rfl⟩))
      go_ret
      exact ⟨by rw [HB.out]; rfl, rfl⟩
    · obtain ⟨B, rfl⟩ : ∃ B : Nat, b = B := ⟨b.toNat, by omega⟩
      have hB : B < n := by omega
      have HB := hid (ahd_nat R n A B hA hB)
      have HO := hid (has_is _ _ _ _ B w S.out hB)
      clear ha hb
      generalize R A B = t at *
      go_enter Try.func13, Try.ntmps13
      go_wp2_with (first | (go_at_call 17; refine T.out.mono ?_; rintro e w' ⟨rfl, rfl⟩) | (go_at_call 14; refine HO.out.mono ?_; rintro e w' ⟨rfl, rfl⟩))
      go_ret
      exact ⟨by rw [HB.out]; rfl, rfl⟩
end Go.Proofs.Ytmnfmilgpglfcaa
