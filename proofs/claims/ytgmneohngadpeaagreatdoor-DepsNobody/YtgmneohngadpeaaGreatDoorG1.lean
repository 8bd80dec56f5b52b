/-
  Graphs: what they look like in memory; Nodes, row, labelsIn, Labels.
-/
import Derived.Test.YtgmneohngadpeaaGreatDoorR3
namespace Go.Proofs.YtgmneohngadpeaaGreatDoor
set_option linter.unusedVariables false
set_option linter.unusedSimpArgs false
open Go.RowKit

/-- A graph of n nodes in block b, its sets' places in block r; the set k lies in block bk k, its words in block ck k; L tells an edge's labels. -/
structure Graph (w : World) (b n r : Nat) (bk ck : Nat → Nat) (L : Nat → Nat → Nat) : Prop where
  box : w.heap[b]? = some (.cells #[.bool true, .int .i64 n, .slice (some ⟨r, 0, none⟩) (4 * n) (4 * n)] 88)
  row : ∃ cur : Array Value, w.heap[r]? = some (.cells cur 89) ∧ cur.size = 4 * n ∧ ∀ k, k < 4 * n → cur[k]? = some (.pointer (some ⟨bk k, 0, none⟩))
  sets : ∀ k, k < 4 * n → Is w (bk k) n (ck k) (fun to => (L (k / 4) to).testBit (k % 4))
  apart : ∀ k k', k < 4 * n → k' < 4 * n → k ≠ k' → ck k ≠ ck k'
  small : ∀ f t, L f t < 16
  bound : n ≤ 300
theorem Graph.later {w w' : World} {b n r : Nat} {bk ck : Nat → Nat} {L : Nat → Nat → Nat} (h : Graph w b n r bk ck L) (hb : Below w.heap.size w w') : Graph w' b n r bk ck L := by
  obtain ⟨cur, h1, h2, h3⟩ := h.row
  exact ⟨(hb.block b (blt h.box)).trans h.box, ⟨cur, (hb.block r (blt h1)).trans h1, h2, h3⟩, fun k hk => (h.sets k hk).later hb, h.apart, h.small, h.bound⟩
theorem Graph.c0 {w : World} {b n r : Nat} {bk ck : Nat → Nat} {L : Nat → Nat → Nat} (h : Graph w b n r bk ck L) : w.cell? ⟨b, 0, none⟩ = some (.bool true) := Lib.cell_of_heap h.box 0
theorem Graph.c1 {w : World} {b n r : Nat} {bk ck : Nat → Nat} {L : Nat → Nat → Nat} (h : Graph w b n r bk ck L) : w.cell? ⟨b, 1, none⟩ = some (.int .i64 n) := Lib.cell_of_heap h.box 1
theorem Graph.c2 {w : World} {b n r : Nat} {bk ck : Nat → Nat} {L : Nat → Nat → Nat} (h : Graph w b n r bk ck L) : w.cell? ⟨b, 2, none⟩ = some (.slice (some ⟨r, 0, none⟩) (4 * n) (4 * n)) := Lib.cell_of_heap h.box 2
theorem Graph.at {w : World} {b n r : Nat} {bk ck : Nat → Nat} {L : Nat → Nat → Nat} (h : Graph w b n r bk ck L) (k : Nat) (hk : k < 4 * n) : w.cell? ⟨r, k, none⟩ = some (.pointer (some ⟨bk k, 0, none⟩)) := by
  obtain ⟨cur, h1, h2, h3⟩ := h.row
  exact (Lib.cell_of_heap h1 k).trans (h3 k hk)

theorem gMade_at (b : Nat) (m : Bool) (w : World) (h : w.cell? ⟨b, 0, none⟩ = some (.bool m)) : Calls Tryz.prog 29 #[.pointer (some ⟨b, 0, none⟩)] w fun e w' => e = .returned (.bool m) ∧ w = w' := by
  go_enter Tryz.func29, Tryz.ntmps29
  go_wp2
  go_ret
  exact ⟨rfl, rfl⟩
theorem ghas_ok (b n : Nat) (i : Nat) (w : World) (c0 : w.cell? ⟨b, 0, none⟩ = some (.bool true)) (c1 : w.cell? ⟨b, 1, none⟩ = some (.int .i64 n)) (hi : i < n) : Calls Tryz.prog 15 #[.pointer (some ⟨b, 0, none⟩), .int .i64 i] w fun e w' => e = .returned (.bool true) ∧ w = w' := by
  have h1 : (0 : Int) ≤ i := by omega
  have h2 : (i : Int) < n := by omega
  go_enter Tryz.func15, Tryz.ntmps15
  go_wp2_with (go_at_call 29; refine (gMade_at _ _ _ c0).mono ?_; rintro e w' ⟨rfl, rfl⟩)
  go_ret
  exact ⟨rfl, rfl⟩
theorem ghas_no (b n : Nat) (i : Int) (w : World) (c0 : w.cell? ⟨b, 0, none⟩ = some (.bool true)) (c1 : w.cell? ⟨b, 1, none⟩ = some (.int .i64 n)) (hi : i < 0 ∨ (n : Int) ≤ i) : Calls Tryz.prog 15 #[.pointer (some ⟨b, 0, none⟩), .int .i64 i] w fun e w' => e = .returned (.bool false) ∧ w = w' := by
  rcases hi with h | h
  · have h1 : ¬ (0 : Int) ≤ i := by omega
    have h2 : decide (0 ≤ i) = false := by simp; omega
    go_enter Tryz.func15, Tryz.ntmps15
    go_wp2_with (go_at_call 29; refine (gMade_at _ _ _ c0).mono ?_; rintro e w' ⟨rfl, rfl⟩)
    go_ret
    exact ⟨rfl, rfl⟩
  · have h1 : (0 : Int) ≤ i := by omega
    have h2 : ¬ i < (n : Int) := by omega
    go_enter Tryz.func15, Tryz.ntmps15
    go_wp2_with (go_at_call 29; refine (gMade_at _ _ _ c0).mono ?_; rintro e w' ⟨rfl, rfl⟩)
    go_ret
    exact ⟨ret_bool (by simp; omega), rfl⟩
theorem row_is (b n r : Nat) (f : Nat) (w : World) (c2 : w.cell? ⟨b, 2, none⟩ = some (.slice (some ⟨r, 0, none⟩) (4 * n) (4 * n))) (hf : f < n) (hn : n ≤ 300) : Calls Tryz.prog 17 #[.pointer (some ⟨b, 0, none⟩), .int .i64 f] w fun e w' => e = .returned (.slice (some ⟨r, 4 * f, none⟩) 4 4) ∧ w = w' := by
  have h1 : (0 : Int) ≤ f := by omega
  have h2 : (f : Int) < n := by omega
  have h3 : (n : Int) ≤ 300 := by omega
  go_enter Tryz.func17, Tryz.ntmps17
  go_wp2
  rw [show 4 * (f + 1) - 4 * f = 4 from by omega]
  go_ret
  exact ⟨rfl, rfl⟩

/-- An edge's labels, whatever the number of its end. -/
def labAt (L : Nat → Nat → Nat) (f : Nat) (to : Int) : Nat := if 0 ≤ to then L f to.toNat else 0
theorem labAt_bit (L : Nat → Nat → Nat) (f i : Nat) (to : Int) : (decide (0 ≤ to) && (L f to.toNat).testBit i) = (labAt L f to).testBit i := by
  unfold labAt
  by_cases h : 0 ≤ to <;> simp [h]
/-- The lowest k bits. -/
def low (x k : Nat) : Nat := x % 2 ^ k
set_option maxRecDepth 100000 in
theorem or_k : ∀ x, x < 16 → ∀ k, k < 4 → x.testBit k = true → bits BinOp.or IntKind.i64 ((low x k : Nat) : Int) (wrap64 (2 ^ k)) = ((low x (k + 1) : Nat) : Int) := by decide +kernel
set_option maxRecDepth 100000 in
theorem no_k : ∀ x, x < 16 → ∀ k, k < 4 → x.testBit k = false → low x k = low x (k + 1) := by decide +kernel
set_option maxRecDepth 100000 in
theorem low_4 : ∀ x, x < 16 → low x 4 = x := by decide +kernel

set_option maxHeartbeats 2000000 in
theorem labelsIn_is (b n r f : Nat) (bk ck : Nat → Nat) (L : Nat → Nat → Nat) (to : Int) (w : World) (h : Graph w b n r bk ck L) (hf : f < n)
    (HA : ∀ i, i < 4 → Calls Tryz.prog 31 #[.pointer (some ⟨bk (4 * f + i), 0, none⟩), .int .i64 to] w fun e w' => e = .returned (.bool ((labAt L f to).testBit i)) ∧ w = w') (hx : labAt L f to < 16) :
    Calls Tryz.prog 16 #[.slice (some ⟨r, 4 * f, none⟩) 4 4, .int .i64 to] w fun e w' => e = .returned (.int .i64 (labAt L f to)) ∧ w = w' := by
  have CA : Hid (∀ i, i < 4 → w.cell? ⟨r, 4 * f + i, none⟩ = some (.pointer (some ⟨bk (4 * f + i), 0, none⟩))) := fun i hi => h.at (4 * f + i) (by omega)
  have H := hid HA
  clear h HA
  generalize labAt L f to = x at *
  go_enter Tryz.func16, Tryz.ntmps16
  go_wp2_with fail
  go_loopg [5, 6, 7, 10] 4 (fun g lab _ _ i wr => ∃ k : Nat, k ≤ 4 ∧ 4 - k ≤ g ∧ i = .int .i64 k ∧ lab = .int .i64 (low x k) ∧ w = wr)
  case atStart => exact ⟨0, by omega, by omega, rfl, by simp [low, Nat.mod_one], rfl⟩
  case round =>
    obtain ⟨k, hk, hg, rfl, rfl, rfl⟩ := hrel
    by_cases hlt : k < 4
    · have hlti : (k : Int) < 4 := by omega
      have ck := CA.out k hlt
      have HC := hid (H.out k hlt)
      cases ht : x.testBit k
      · have e := no_k x hx k hlt ht
        rw [ht] at HC
        have E := hid e
        clear e ht
        go_wp2_with (go_at_call 31; refine HC.out.mono ?_; rintro e w' ⟨rfl, rfl⟩)
        go_roundg (4 - (k + 1))
        · exact ⟨k + 1, by omega, by omega, by go_num, by rw [E.out], rfl⟩
        · omega
      · have e := or_k x hx k hlt ht
        rw [ht] at HC
        have E := hid e
        clear ht e
        obtain ⟨y, hy⟩ : ∃ y, low x k = y := ⟨_, rfl⟩
        rw [hy] at E
        rw [hy]
        clear hy
        go_wp2_with (go_at_call 31; refine HC.out.mono ?_; rintro e w' ⟨rfl, rfl⟩)
        go_roundg (4 - (k + 1))
        · exact ⟨k + 1, by omega, by omega, by go_num, by rw [E.out], rfl⟩
        · omega
    · have hlti : ¬ (k : Int) < 4 := by omega
      have ek : k = 4 := by omega
      subst ek
      have e16 : Hid (low x 4 = x) := low_4 x hx
      go_wp2_with fail
      go_ret
      exact ⟨ret_int (by rw [e16.out]), rfl⟩
theorem Graph.lab16 {w : World} {b n r : Nat} {bk ck : Nat → Nat} {L : Nat → Nat → Nat} (h : Graph w b n r bk ck L) (f : Nat) (to : Int) : labAt L f to < 16 := by
  unfold labAt
  split
  · exact h.small _ _
  · decide
theorem Graph.has {w : World} {b n r : Nat} {bk ck : Nat → Nat} {L : Nat → Nat → Nat} (h : Graph w b n r bk ck L) (f : Nat) (hf : f < n) (to : Int) (i : Nat) (hi : i < 4) :
    Calls Tryz.prog 31 #[.pointer (some ⟨bk (4 * f + i), 0, none⟩), .int .i64 to] w fun e w' => e = .returned (.bool ((labAt L f to).testBit i)) ∧ w = w' := by
  have hs := h.sets (4 * f + i) (by omega)
  have e1 : (4 * f + i) / 4 = f := by omega
  have e2 : (4 * f + i) % 4 = i := by omega
  rw [e1, e2] at hs
  rw [← labAt_bit]
  by_cases ht : 0 ≤ to ∧ to < n
  · obtain ⟨T, rfl⟩ : ∃ T : Nat, to = T := ⟨to.toNat, by omega⟩
    have e : (decide ((0 : Int) ≤ T) && (L f (T : Int).toNat).testBit i) = (L f T).testBit i := by simp
    rw [e]
    exact has_is _ n _ _ T w hs (by omega)
  · have e : (decide (0 ≤ to) && (L f to.toNat).testBit i) = false := by
      by_cases h0 : 0 ≤ to
      · rw [hs.top to.toNat (by omega)]; simp
      · simp [h0]
    rw [e]
    exact has_off _ n _ _ to w hs (by omega)
theorem labelsIn_at (b n r f : Nat) (bk ck : Nat → Nat) (L : Nat → Nat → Nat) (to : Int) (w : World) (h : Graph w b n r bk ck L) (hf : f < n) :
    Calls Tryz.prog 16 #[.slice (some ⟨r, 4 * f, none⟩) 4 4, .int .i64 to] w fun e w' => e = .returned (.int .i64 (labAt L f to)) ∧ w = w' :=
  labelsIn_is b n r f bk ck L to w h hf (fun i hi => h.has f hf to i hi) (h.lab16 f to)
end Go.Proofs.YtgmneohngadpeaaGreatDoor
