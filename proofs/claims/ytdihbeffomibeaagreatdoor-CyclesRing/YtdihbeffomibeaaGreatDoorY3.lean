/-
  Graphs: what they look like in memory; Nodes, row, labelsIn, Labels.
  graph.New.
  Add of a graph.
  Dependencies by their cells; deps.Graph.
  Dependencies, plain and by their cells; what Find finds, plain.
-/
import Derived.Test.YtdihbeffomibeaaGreatDoorY2
import Derived.Deep.RegionWith
import Derived.WalkKit
import Derived.ProofKit
import Derived.Deep.AppendLies
import Derived.Deep.LoopGhost
import Derived.Deep.Draws
import Derived.Lib.SliceRun
import Derived.Lib.Walk
import Derived.Deep.Slices
import Derived.RegionTactic
import Derived.Test.YtdihbeffomibeaaGreatDoorProg
namespace Go.Proofs.YtdihbeffomibeaaGreatDoor
set_option linter.unusedVariables false
set_option linter.unusedSimpArgs false
open Go.RowKit

/-- A graph of n nodes in block b, its sets' places in block r; the set k lies in block bk k, its words in block ck k; L tells an edge's labels. -/
structure Graph (w : World) (b n r : Nat) (bk ck : Nat → Nat) (L : Nat → Nat → Nat) : Prop where
  box : w.heap[b]? = some (.cells #[.bool true, .int .i64 n, .slice (some ⟨r, 0, none⟩) (4 * n) (4 * n)] 90)
  row : ∃ cur : Array Value, w.heap[r]? = some (.cells cur 91) ∧ cur.size = 4 * n ∧ ∀ k, k < 4 * n → cur[k]? = some (.pointer (some ⟨bk k, 0, none⟩))
  sets : ∀ k, k < 4 * n → Is w (bk k) n (ck k) (fun to => (L (k / 4) to).testBit (k % 4))
  apart : ∀ k k', k < 4 * n → k' < 4 * n → k ≠ k' → ck k ≠ ck k'
  small : ∀ f t, L f t < 16
  bound : n ≤ 300
theorem Graph.later {w w' : World} {b n r : Nat} {bk ck : Nat → Nat} {L : Nat → Nat → Nat} (h : Graph w b n r bk ck L) (hb : Below w.heap.size w w') : Graph w' b n r bk ck L := by
  obtain ⟨cur, h1, h2, h3⟩ := h.row
  exact ⟨(hb.block b (blt h.box)).trans h.box, ⟨cur, (hb.block r (blt h1)).trans h1, h2, h3⟩, fun k hk => (h.sets k hk).later hb, h.apart, h.small, h.bound⟩
theorem Graph.c0 {w : World} {b n r : Nat} {bk ck : Nat → Nat} {L : Nat → Nat → Nat} (h : Graph w b n r bk ck L) : w.cell? ⟨b, 0, none⟩ = some (.bool true) := Lib.cell_of_heap h.box 0
theorem Graph.c1 {w : World} {b n r : Nat} {bk ck : Nat → Nat} {L : Nat → Nat → Nat} (h : Graph w b n r bk ck L) : w.cell? ⟨b, 1, none⟩ = some (.int .i64 n) := Lib.cell_of_heap h.box 1
theorem Graph.c2 {w : World} {b n r : Nat} {bk ck : Nat → Nat} {L : Nat → Nat → Nat} (h : Graph w b n r bk ck L) : w.cell? ⟨b, 2, none⟩ = some (.slice (some ⟨r, 0, none⟩) (4 * n) (4 * n)) := Lib.cell_of_heap h.box 2
theorem Graph.at {w : World} {b n r : Nat} {bk ck : Nat → Nat} {L : Nat → Nat → Nat} (h : Graph w b n r bk ck L) (k : Nat) (hk : k < 4 * n) : w.cell? ⟨r, k, none⟩ = some (.pointer (some ⟨bk k, 0, none⟩)) := by
  obtain ⟨cur, h1, h2, h3⟩ := h.row
  exact (Lib.cell_of_heap h1 k).trans (h3 k hk)

theorem gMade_at (b : Nat) (m : Bool) (w : World) (h : w.cell? ⟨b, 0, none⟩ = some (.bool m)) : Calls Tryz.prog 54 #[.pointer (some ⟨b, 0, none⟩)] w fun e w' => e = .returned (.bool m) ∧ w = w' := by
  go_enter Tryz.func54, Tryz.ntmps54
  go_wp2
  go_ret
  exact ⟨rfl, rfl⟩
theorem nodes_is (b n : Nat) (w : World) (c0 : w.cell? ⟨b, 0, none⟩ = some (.bool true)) (c1 : w.cell? ⟨b, 1, none⟩ = some (.int .i64 n)) : Calls Tryz.prog 40 #[.pointer (some ⟨b, 0, none⟩)] w fun e w' => e = .returned (.int .i64 n) ∧ w = w' := by
  go_enter Tryz.func40, Tryz.ntmps40
  go_wp2_with (go_at_call 54; refine (gMade_at _ _ _ c0).mono ?_; rintro e w' ⟨rfl, rfl⟩)
  go_ret
  exact ⟨rfl, rfl⟩
theorem ghas_ok (b n : Nat) (i : Nat) (w : World) (c0 : w.cell? ⟨b, 0, none⟩ = some (.bool true)) (c1 : w.cell? ⟨b, 1, none⟩ = some (.int .i64 n)) (hi : i < n) : Calls Tryz.prog 44 #[.pointer (some ⟨b, 0, none⟩), .int .i64 i] w fun e w' => e = .returned (.bool true) ∧ w = w' := by
  have h1 : (0 : Int) ≤ i := by omega
  have h2 : (i : Int) < n := by omega
  go_enter Tryz.func44, Tryz.ntmps44
  go_wp2_with (go_at_call 54; refine (gMade_at _ _ _ c0).mono ?_; rintro e w' ⟨rfl, rfl⟩)
  go_ret
  exact ⟨rfl, rfl⟩
theorem ghas_no (b n : Nat) (i : Int) (w : World) (c0 : w.cell? ⟨b, 0, none⟩ = some (.bool true)) (c1 : w.cell? ⟨b, 1, none⟩ = some (.int .i64 n)) (hi : i < 0 ∨ (n : Int) ≤ i) : Calls Tryz.prog 44 #[.pointer (some ⟨b, 0, none⟩), .int .i64 i] w fun e w' => e = .returned (.bool false) ∧ w = w' := by
  rcases hi with h | h
  · have h1 : ¬ (0 : Int) ≤ i := by omega
    have h2 : decide (0 ≤ i) = false := by simp; omega
    go_enter Tryz.func44, Tryz.ntmps44
    go_wp2_with (go_at_call 54; refine (gMade_at _ _ _ c0).mono ?_; rintro e w' ⟨rfl, rfl⟩)
    go_ret
    exact ⟨rfl, rfl⟩
  · have h1 : (0 : Int) ≤ i := by omega
    have h2 : ¬ i < (n : Int) := by omega
    go_enter Tryz.func44, Tryz.ntmps44
    go_wp2_with (go_at_call 54; refine (gMade_at _ _ _ c0).mono ?_; rintro e w' ⟨rfl, rfl⟩)
    go_ret
    exact ⟨ret_bool (by simp; omega), rfl⟩
theorem row_is (b n r : Nat) (f : Nat) (w : World) (c2 : w.cell? ⟨b, 2, none⟩ = some (.slice (some ⟨r, 0, none⟩) (4 * n) (4 * n))) (hf : f < n) (hn : n ≤ 300) : Calls Tryz.prog 46 #[.pointer (some ⟨b, 0, none⟩), .int .i64 f] w fun e w' => e = .returned (.slice (some ⟨r, 4 * f, none⟩) 4 4) ∧ w = w' := by
  have h1 : (0 : Int) ≤ f := by omega
  have h2 : (f : Int) < n := by omega
  have h3 : (n : Int) ≤ 300 := by omega
  go_enter Tryz.func46, Tryz.ntmps46
  go_wp2
  rw [show 4 * (f + 1) - 4 * f = 4 from by omega]
  go_ret
  exact ⟨rfl, rfl⟩

/-- An edge's labels, whatever the number of its end. -/
def labAt (L : Nat → Nat → Nat) (f : Nat) (to : Int) : Nat := if 0 ≤ to then L f to.toNat else 0
theorem labAt_bit (L : Nat → Nat → Nat) (f i : Nat) (to : Int) : (decide (0 ≤ to) && (L f to.toNat).testBit i) = (labAt L f to).testBit i := by
  unfold labAt
  by_cases h : 0 ≤ to <;> simp [h]
/-- The lowest k bits. -/
def low (x k : Nat) : Nat := x % 2 ^ k
set_option maxRecDepth 100000 in
theorem or_k : ∀ x, x < 16 → ∀ k, k < 4 → x.testBit k = true → bits BinOp.or IntKind.i64 ((low x k : Nat) : Int) (wrap64 (2 ^ k)) = ((low x (k + 1) : Nat) : Int) := by decide +kernel
set_option maxRecDepth 100000 in
theorem no_k : ∀ x, x < 16 → ∀ k, k < 4 → x.testBit k = false → low x k = low x (k + 1) := by decide +kernel
set_option maxRecDepth 100000 in
theorem low_4 : ∀ x, x < 16 → low x 4 = x := by decide +kernel

set_option maxHeartbeats 2000000 in
theorem labelsIn_is (b n r f : Nat) (bk ck : Nat → Nat) (L : Nat → Nat → Nat) (to : Int) (w : World) (h : Graph w b n r bk ck L) (hf : f < n)
    (HA : ∀ i, i < 4 → Calls Tryz.prog 64 #[.pointer (some ⟨bk (4 * f + i), 0, none⟩), .int .i64 to] w fun e w' => e = .returned (.bool ((labAt L f to).testBit i)) ∧ w = w') (hx : labAt L f to < 16) :
    Calls Tryz.prog 45 #[.slice (some ⟨r, 4 * f, none⟩) 4 4, .int .i64 to] w fun e w' => e = .returned (.int .i64 (labAt L f to)) ∧ w = w' := by
  have CA : Hid (∀ i, i < 4 → w.cell? ⟨r, 4 * f + i, none⟩ = some (.pointer (some ⟨bk (4 * f + i), 0, none⟩))) := fun i hi => h.at (4 * f + i) (by omega)
  have H := hid HA
  clear h HA
  generalize labAt L f to = x at *
  go_enter Tryz.func45, Tryz.ntmps45
  go_wp2_with fail
  go_loopg [5, 6, 7, 10] 4 (fun g lab _ _ i wr => ∃ k : Nat, k ≤ 4 ∧ 4 - k ≤ g ∧ i = .int .i64 k ∧ lab = .int .i64 (low x k) ∧ w = wr)
  case atStart => exact ⟨0, by omega, by omega, rfl, by simp [low, Nat.mod_one], rfl⟩
  case round =>
    obtain ⟨k, hk, hg, rfl, rfl, rfl⟩ := hrel
    by_cases hlt : k < 4
    · have hlti : (k : Int) < 4 := by omega
      have ck := CA.out k hlt
      have HC := hid (H.out k hlt)
      cases ht : x.testBit k
      · have e := no_k x hx k hlt ht
        rw [ht] at HC
        have E := hid e
        clear e ht
        go_wp2_with (go_at_call 64; refine HC.out.mono ?_; rintro e w' ⟨rfl, rfl⟩)
        go_roundg (4 - (k + 1))
        · exact ⟨k + 1, by omega, by omega, by go_num, by rw [E.out], rfl⟩
        · omega
      · have e := or_k x hx k hlt ht
        rw [ht] at HC
        have E := hid e
        clear ht e
        obtain ⟨y, hy⟩ : ∃ y, low x k = y := ⟨_, rfl⟩
        rw [hy] at E
        rw [hy]
        clear hy
        go_wp2_with (go_at_call 64; refine HC.out.mono ?_; rintro e w' ⟨rfl, rfl⟩)
        go_roundg (4 - (k + 1))
        · exact ⟨k + 1, by omega, by omega, by go_num, by rw [E.out], rfl⟩
        · omega
    · have hlti : ¬ (k : Int) < 4 := by omega
      have ek : k = 4 := by omega
      subst ek
      have e16 : Hid (low x 4 = x) := low_4 x hx
      go_wp2_with fail
      go_ret
      exact ⟨ret_int (by rw [e16.out]), rfl⟩
theorem Graph.lab16 {w : World} {b n r : Nat} {bk ck : Nat → Nat} {L : Nat → Nat → Nat} (h : Graph w b n r bk ck L) (f : Nat) (to : Int) : labAt L f to < 16 := by
  unfold labAt
  split
  · exact h.small _ _
  · decide
theorem Graph.has {w : World} {b n r : Nat} {bk ck : Nat → Nat} {L : Nat → Nat → Nat} (h : Graph w b n r bk ck L) (f : Nat) (hf : f < n) (to : Int) (i : Nat) (hi : i < 4) :
    Calls Tryz.prog 64 #[.pointer (some ⟨bk (4 * f + i), 0, none⟩), .int .i64 to] w fun e w' => e = .returned (.bool ((labAt L f to).testBit i)) ∧ w = w' := by
  have hs := h.sets (4 * f + i) (by omega)
  have e1 : (4 * f + i) / 4 = f := by omega
  have e2 : (4 * f + i) % 4 = i := by omega
  rw [e1, e2] at hs
  rw [← labAt_bit]
  by_cases ht : 0 ≤ to ∧ to < n
  · obtain ⟨T, rfl⟩ : ∃ T : Nat, to = T := ⟨to.toNat, by omega⟩
    have e : (decide ((0 : Int) ≤ T) && (L f (T : Int).toNat).testBit i) = (L f T).testBit i := by simp
    rw [e]
    exact has_is _ n _ _ T w hs (by omega)
  · have e : (decide (0 ≤ to) && (L f to.toNat).testBit i) = false := by
      by_cases h0 : 0 ≤ to
      · rw [hs.top to.toNat (by omega)]; simp
      · simp [h0]
    rw [e]
    exact has_off _ n _ _ to w hs (by omega)
theorem labelsIn_at (b n r f : Nat) (bk ck : Nat → Nat) (L : Nat → Nat → Nat) (to : Int) (w : World) (h : Graph w b n r bk ck L) (hf : f < n) :
    Calls Tryz.prog 45 #[.slice (some ⟨r, 4 * f, none⟩) 4 4, .int .i64 to] w fun e w' => e = .returned (.int .i64 (labAt L f to)) ∧ w = w' :=
  labelsIn_is b n r f bk ck L to w h hf (fun i hi => h.has f hf to i hi) (h.lab16 f to)
end Go.Proofs.YtdihbeffomibeaaGreatDoor
namespace Go.Proofs.YtdihbeffomibeaaGreatDoor
set_option linter.unusedVariables false
set_option linter.unusedSimpArgs false
open Go.RowKit

theorem Tryz.info23 : (Tryz.prog.info? 91).map (fun i => (i.zero, i.size, i.bytes)) = some (some (.pointer none), 1, 8) := by kernel_rfl
theorem made_ptrs (m : Nat) : madeCells #[Value.pointer none] m = Array.replicate m (Value.pointer none) := by
  apply Array.ext
  · simp [madeCells]
  · intro i h1 h2
    have h0 : i % 1 = 0 := by omega
    simp [madeCells, h0]
/-- A graph that is made: its first k sets are. -/
structure Made (H n k : Nat) (w : World) : Prop where
  size : w.heap.size = H + 2 + 2 * k
  box : w.heap[H + 1]? = some (.cells #[.bool true, .int .i64 n, .slice (some ⟨H, 0, none⟩) (4 * n) (4 * n)] 90)
  row : ∃ cur : Array Value, w.heap[H]? = some (.cells cur 91) ∧ cur.size = 4 * n ∧ (∀ j, j < k → cur[j]? = some (.pointer (some ⟨H + 3 + 2 * j, 0, none⟩))) ∧ ∃ v, k < 4 * n → cur[k]? = some v
  sets : ∀ j, j < k → Is w (H + 3 + 2 * j) n (H + 2 + 2 * j) (fun _ => false)
theorem Made.graph {H n : Nat} {w : World} (h : Made H n (4 * n) w) (hn : n ≤ 300) : Graph w (H + 1) n H (fun k => H + 3 + 2 * k) (fun k => H + 2 + 2 * k) (fun _ _ => 0) := by
  obtain ⟨cur, h1, h2, h3, _⟩ := h.row
  exact ⟨h.box, ⟨cur, h1, h2, h3⟩, fun k hk => (h.sets k hk).congr (fun _ => by simp), fun k k' _ _ hne => by omega, fun _ _ => by decide, hn⟩
theorem Made.next {H n k : Nat} {w wa : World} (h : Made H n k w) (hk : k < 4 * n) (sa : Is wa (w.heap.size + 1) n w.heap.size (fun _ => false)) (ba : Below w.heap.size w wa) (za : wa.heap.size = w.heap.size + 2) :
    Made H n (k + 1) (wa.setCell ⟨H, k, none⟩ (.pointer (some ⟨w.heap.size + 1, 0, none⟩))) := by
  obtain ⟨cur, h1, h2, h3, h4⟩ := h.row
  have hs := h.size
  have hH : H < w.heap.size := by omega
  have hb : Beside H wa (wa.setCell ⟨H, k, none⟩ (.pointer (some ⟨w.heap.size + 1, 0, none⟩))) := (Beside.refl H wa).setCell (p := ⟨H, k, none⟩) rfl _
  have r1 : wa.heap[H]? = some (.cells cur 91) := (ba.block H hH).trans h1
  refine ⟨by simp [World.setCell]; omega, ?_, ⟨cur.setIfInBounds k (.pointer (some ⟨w.heap.size + 1, 0, none⟩)), Go.Joins.block_setCell r1 _, by simpa using h2, fun j hj => ?_, ?_⟩, fun j hj => ?_⟩
  · rw [hb.block (H + 1) (by omega) (by omega), ba.block (H + 1) (by omega)]
    exact h.box
  · rw [Array.getElem?_setIfInBounds]
    by_cases e : k = j
    · subst e
      rw [if_pos rfl, if_pos (by omega)]
      congr 4
      omega
    · rw [if_neg e]
      exact h3 j (by omega)
  · by_cases hk1 : k + 1 < 4 * n
    · refine ⟨cur[k + 1]'(by omega), fun _ => ?_⟩
      rw [Array.getElem?_setIfInBounds, if_neg (by omega), Array.getElem?_eq_getElem]
    · exact ⟨.bool true, fun h => absurd h hk1⟩
  · by_cases e : j = k
    · subst e
      have e1 : H + 3 + 2 * j = w.heap.size + 1 := by omega
      have e2 : H + 2 + 2 * j = w.heap.size := by omega
      rw [e1, e2]
      exact sa.beside hb (by omega) (by omega)
    · exact ((h.sets j (by omega)).later ba).beside hb (by omega) (by omega)

theorem Made.drew {H n k : Nat} {w : World} (h : Made H n k w) : Made H n k w.drew := ⟨h.size, h.box, h.row, fun j hj => (h.sets j hj).later ((Below.refl _ _).drew)⟩

set_option maxHeartbeats 4000000 in
theorem gnew_ok (n : Nat) (hn : n ≤ 300) (w : World) : Calls Tryz.prog 36 #[.int .i64 n] w fun e w' => e = .returned (.tuple #[.pointer (some ⟨w.heap.size + 1, 0, none⟩), .int .i64 0]) ∧ Graph w' (w.heap.size + 1) n w.heap.size (fun k => w.heap.size + 3 + 2 * k) (fun k => w.heap.size + 2 + 2 * k) (fun _ _ => 0) ∧ Below w.heap.size w w' := by
  have hmk := run_make_row' (P := Tryz.prog) 79 91 (.pointer none) 8 Tryz.underlying79 Tryz.info23 rfl .i64 .i64 (4 * n) (by omega) (by omega)
  have h0 : (0 : Int) ≤ n := by omega
  have h1 : (n : Int) ≤ 300 := by omega
  have e1 : ((4 * n : Nat) : Int) = 4 * (n : Int) := by omega
  rw [e1, made_ptrs] at hmk
  clear e1
  go_enter Tryz.func36, Tryz.ntmps36
  go_wp2_with fail
  have M0 : Hid (Made w.heap.size n 0 ((w.alloc (.cells (Array.replicate (4 * n) (Value.pointer none)) 91)).alloc (.cells #[.bool true, .int .i64 n, .slice (some ⟨w.heap.size, 0, none⟩) (4 * n) (4 * n)] 90))) := by
    refine ⟨by simp, ?_, ⟨Array.replicate (4 * n) (Value.pointer none), ?_, by simp, fun j hj => by omega, .pointer none, fun h => by rw [Array.getElem?_replicate, if_pos h]⟩, fun j hj => by omega⟩
    · have := heap_alloc_new (w.alloc (.cells (Array.replicate (4 * n) (Value.pointer none)) 91)) (.cells #[.bool true, .int .i64 n, .slice (some ⟨w.heap.size, 0, none⟩) (4 * n) (4 * n)] 90)
      simpa using this
    · rw [Lib.alloc_old _ _ w.heap.size (by simp)]
      exact heap_alloc_new w _
  have B0 : Hid (Below w.heap.size w ((w.alloc (.cells (Array.replicate (4 * n) (Value.pointer none)) 91)).alloc (.cells #[.bool true, .int .i64 n, .slice (some ⟨w.heap.size, 0, none⟩) (4 * n) (4 * n)] 90))) := (below_box w _).alloc (by simp) _
  clear hmk
  generalize (w.alloc (.cells (Array.replicate (4 * n) (Value.pointer none)) 91)).alloc (.cells #[.bool true, .int .i64 n, .slice (some ⟨w.heap.size, 0, none⟩) (4 * n) (4 * n)] 90) = W0 at *
  go_loopg [5, 23] (4 * n) (fun g _ i wr => ∃ k : Nat, k ≤ 4 * n ∧ 4 * n - k ≤ g ∧ i = .int .i64 k ∧ Aside (Made w.heap.size n k wr) ∧ Aside (Below w.heap.size w wr))
  case atStart => exact ⟨0, Nat.zero_le _, by omega, rfl, M0.out, B0.out⟩
  case round =>
    obtain ⟨k, hk, hg, rfl, MX, BX⟩ := hrel
    by_cases hlt : k < 4 * n
    · have hlti : (k : Int) < 4 * (n : Int) := by omega
      obtain ⟨cur, r1, r2, r3, v, r4⟩ := MX.out.row
      have rk := r4 hlt
      have cb : wr.cell? ⟨w.heap.size + 1, 2, none⟩ = some (.slice (some ⟨w.heap.size, 0, none⟩) (4 * n) (4 * n)) := Lib.cell_of_heap MX.out.box 2
      have ck : wr.cell? ⟨w.heap.size, k, none⟩ = some v := (Lib.cell_of_heap r1 k).trans rk
      have fk : wr.frozen? ⟨w.heap.size, k, none⟩ = false := Lib.frozen_of_heap r1 k
      have hsz := hid MX.out.size
      have hlt1 : w.heap.size + 1 < wr.heap.size := by have := hsz.out; omega
      clear r1 r2 r3 r4 rk
      go_wp2_with fail
      go_region_with (go_at_call 53; refine (new_is n (by omega) _).mono ?_; rintro e wa ⟨rfl, sa, ba, za⟩; have SA := hid sa; have BA := hid ba; have ZA := hid za; have cb2 : wa.cell? ⟨w.heap.size + 1, 2, none⟩ = some (.slice (some ⟨w.heap.size, 0, none⟩) (4 * n) (4 * n)) := (ba.cell (p := ⟨w.heap.size + 1, 2, none⟩) hlt1).trans cb; have ck2 : wa.cell? ⟨w.heap.size, k, none⟩ = some v := (ba.cell (p := ⟨w.heap.size, k, none⟩) (by show w.heap.size < wr.heap.size; omega)).trans ck; have fk2 : wa.frozen? ⟨w.heap.size, k, none⟩ = false := (ba.frozen (p := ⟨w.heap.size, k, none⟩) (by show w.heap.size < wr.heap.size; omega)).trans fk; clear sa ba za)
      all_goals (try go_wp2_with fail)
      all_goals
        have MN := hid (MX.out.drew.next hlt SA.out BA.out ZA.out)
        go_roundg (4 * n - (k + 1))
        · exact ⟨k + 1, by omega, by omega, by go_num, MN.out, (BX.out.drew.trans (BA.out.mono BX.out.size)).setCell (Nat.le_refl _) _⟩
        · omega
    · have hlti : ¬ (k : Int) < 4 * (n : Int) := by omega
      have ek : 4 * n = k := by omega
      have key : Graph wr (w.heap.size + 1) n w.heap.size (fun k => w.heap.size + 3 + 2 * k) (fun k => w.heap.size + 2 + 2 * k) (fun _ _ => 0) := Made.graph (by rw [ek]; exact MX.out) hn
      have KEY := hid key
      clear key ek
      go_wp2_with fail
      go_ret2
      exact ⟨rfl, KEY.out, BX.out⟩
theorem gnew_no (n : Int) (hn : n < 0 ∨ 300 < n) (w : World) : Calls Tryz.prog 36 #[.int .i64 n] w fun e w' => e = .returned (.tuple #[.pointer none, .int .i64 1]) ∧ w = w' := by
  rcases hn with h | h
  · go_enter Tryz.func36, Tryz.ntmps36
    go_wp2
    go_ret2
    exact ⟨rfl, rfl⟩
  · have h0 : ¬ n < 0 := by omega
    go_enter Tryz.func36, Tryz.ntmps36
    go_wp2
    go_ret2
    exact ⟨rfl, rfl⟩
end Go.Proofs.YtdihbeffomibeaaGreatDoor
namespace Go.Proofs.YtdihbeffomibeaaGreatDoor
set_option linter.unusedVariables false
set_option linter.unusedSimpArgs false
open Go.RowKit

/-- The labels behind Add of the lowest k of some labels. -/
def addL (L : Nat → Nat → Nat) (f T x k : Nat) : Nat → Nat → Nat := fun f' t' => if f' = f ∧ t' = T then L f' t' ||| low x k else L f' t'
theorem low_bit (x k i : Nat) : (low x k).testBit i = (decide (i < k) && x.testBit i) := by
  unfold low
  exact Nat.testBit_mod_two_pow x k i
theorem addL_bit (L : Nat → Nat → Nat) (f T x k f' t' i : Nat) : (addL L f T x k f' t').testBit i = ((L f' t').testBit i || (decide (f' = f ∧ t' = T ∧ i < k) && x.testBit i)) := by
  unfold addL
  by_cases h : f' = f ∧ t' = T
  · rw [if_pos h, Nat.testBit_or, low_bit]
    simp [h.1, h.2]
  · rw [if_neg h]
    have : decide (f' = f ∧ t' = T ∧ i < k) = false := by simp; intro h1 h2; exact absurd ⟨h1, h2⟩ h
    rw [this]
    simp
theorem addL_0 (L : Nat → Nat → Nat) (f T x : Nat) : addL L f T x 0 = L := by
  funext f' t'
  apply Nat.eq_of_testBit_eq
  intro i
  rw [addL_bit]
  simp
theorem addL_skip (L : Nat → Nat → Nat) (f T x k : Nat) (h : x.testBit k = false) : addL L f T x (k + 1) = addL L f T x k := by
  funext f' t'
  apply Nat.eq_of_testBit_eq
  intro i
  rw [addL_bit, addL_bit]
  by_cases e : i = k
  · subst e
    simp [h]
  · congr 2
    rw [Bool.eq_iff_iff]
    simp
    intro _ _
    omega
theorem addL_small (L : Nat → Nat → Nat) (f T x k : Nat) (hL : ∀ f t, L f t < 16) (hx : x < 16) (f' t' : Nat) : addL L f T x k f' t' < 16 := by
  unfold addL
  split
  · exact Nat.or_lt_two_pow (n := 4) (hL _ _) (Nat.lt_of_le_of_lt (Nat.mod_le _ _) hx)
  · exact hL _ _
set_option maxRecDepth 100000 in
theorem bit_is : ∀ x : Nat, x < 16 → ∀ k : Nat, k < 4 → (bits BinOp.and IntKind.i64 ((x : Int) / 2 ^ k) 1 == 1) = x.testBit k := by decide +kernel

/-- w' is w but for blocks of P. -/
structure Save (P : Nat → Prop) (w w' : World) : Prop where
  os : w'.os = w.os
  tape : w'.tape = w.tape
  output : w'.output = w.output
  size : w'.heap.size = w.heap.size
  block : ∀ k, k < w.heap.size → ¬ P k → w'.heap[k]? = w.heap[k]?
theorem Save.refl (P : Nat → Prop) (w : World) : Save P w w := ⟨rfl, rfl, rfl, rfl, fun _ _ _ => rfl⟩
theorem Save.beside {P : Nat → Prop} {w w1 w2 : World} {c : Nat} (h : Save P w w1) (hb : Beside c w1 w2) (hz : w2.heap.size = w1.heap.size) (hc : P c) : Save P w w2 :=
  ⟨hb.os.trans h.os, hb.tape.trans h.tape, hb.output.trans h.output, hz.trans h.size, fun k hk hn => (hb.block k (by rw [h.size]; exact hk) (fun e => hn (by rw [e]; exact hc))).trans (h.block k hk hn)⟩
theorem Save.below {P : Nat → Prop} {w w' : World} (h : Save P w w') (H : Nat) (hH : ∀ k, P k → H ≤ k) (hs : H ≤ w.heap.size) : Below H w w' :=
  ⟨h.os, h.tape, h.output, by rw [h.size]; exact Nat.le_refl _, fun k hk => h.block k (by omega) (fun hp => by have := hH k hp; omega)⟩

theorem Graph.step {w wa : World} {b n r : Nat} {bk ck : Nat → Nat} {L : Nat → Nat → Nat} {f T x k : Nat} (h : Graph w b n r bk ck (addL L f T x k)) (hL : ∀ f t, L f t < 16) (hx : x < 16) (hf : f < n) (hk : k < 4) (hb : x.testBit k = true)
    (sa : Is wa (bk (4 * f + k)) n (ck (4 * f + k)) (fun t => t == T || (addL L f T x k f t).testBit k)) (ba : Beside (ck (4 * f + k)) w wa) : Graph wa b n r bk ck (addL L f T x (k + 1)) := by
  obtain ⟨cur, r1, r2, r3⟩ := h.row
  have hs := h.sets (4 * f + k) (by omega)
  obtain ⟨ws, s1, s2⟩ := hs.ex
  refine ⟨(ba.block b (blt h.box) (tags h.box s1.row (by decide))).trans h.box, ⟨cur, (ba.block r (blt r1) (tags r1 s1.row (by decide))).trans r1, r2, r3⟩, fun k' hk' => ?_, h.apart, addL_small L f T x (k + 1) hL hx, h.bound⟩
  by_cases e : k' = 4 * f + k
  · subst e
    refine sa.congr (fun t => ?_)
    have e1 : (4 * f + k) / 4 = f := by omega
    have e2 : (4 * f + k) % 4 = k := by omega
    rw [e1, e2, addL_bit, addL_bit, hb]
    by_cases e3 : t = T
    · subst e3
      simp
    · simp [e3]
  · have h1 := (h.sets k' hk').beside_set hs (h.apart k' (4 * f + k) hk' (by omega) e) ba
    refine h1.congr (fun t => ?_)
    rw [addL_bit, addL_bit]
    congr 2
    rw [Bool.eq_iff_iff]
    simp
    intro h2 h3
    omega

set_option maxHeartbeats 4000000 in
theorem gadd_ok (b n r : Nat) (bk ck : Nat → Nat) (L : Nat → Nat → Nat) (f T x : Nat) (w : World) (h : Graph w b n r bk ck L) (hf : f < n) (hT : T < n) (hx1 : 1 ≤ x) (hx : x < 16) (hne : f ≠ T) :
    Calls Tryz.prog 37 #[.pointer (some ⟨b, 0, none⟩), .int .i64 f, .int .i64 T, .int .i64 x] w fun e w' => e = .returned (.int .i64 0) ∧ Graph w' b n r bk ck (addL L f T x 4) ∧ Save (fun c => ∃ i, i < 4 ∧ c = ck (4 * f + i)) w w' := by
  have G0 := hid h
  have H0 := hid (gMade_at b true w h.c0)
  have H1 := hid (ghas_ok b n f w h.c0 h.c1 hf)
  have H2 := hid (ghas_ok b n T w h.c0 h.c1 hT)
  have H3 := hid (row_is b n r f w h.c2 hf h.bound)
  have SM := hid h.small
  have hn3 := h.bound
  clear h
  have q1 : (1 : Int) ≤ x := by omega
  have q2 : (x : Int) ≤ 15 := by omega
  have q3 : ((f : Int) == (T : Int)) = false := by simp; omega
  have q4 : (T : Int) < n := by omega
  go_enter Tryz.func37, Tryz.ntmps37
  go_wp2_with fail
  refine H0.out.mono ?_
  rintro e w' ⟨rfl, rfl⟩
  go_wp2_with fail
  refine H1.out.mono ?_
  rintro e w' ⟨rfl, rfl⟩
  go_wp2_with fail
  refine H2.out.mono ?_
  rintro e w' ⟨rfl, rfl⟩
  go_wp2_with fail
  refine H3.out.mono ?_
  rintro e w' ⟨rfl, rfl⟩
  clear H0 H1 H2 H3
  go_wp2_with fail
  go_loopg [9, 10, 39] 4 (fun g _ _ i wr => ∃ k : Nat, k ≤ 4 ∧ 4 - k ≤ g ∧ i = .int .i64 k ∧ Aside (Graph wr b n r bk ck (addL L f T x k)) ∧ Aside (Save (fun c => ∃ i, i < 4 ∧ c = ck (4 * f + i)) w wr))
  case atStart => exact ⟨0, by omega, by omega, rfl, by rw [addL_0]; exact G0.out, Save.refl _ _⟩
  case round =>
    obtain ⟨k, hk, hg, rfl, GX, SX⟩ := hrel
    by_cases hlt : k < 4
    · have hlti : (k : Int) < 4 := by omega
      have cr := GX.out.at (4 * f + k) (by omega)
      have hbit := bit_is x hx k hlt
      cases ht : x.testBit k
      · rw [ht] at hbit
        have ES := hid (addL_skip L f T x k ht)
        clear ht
        go_wp2_with fail
        go_roundg (4 - (k + 1))
        · exact ⟨k + 1, by omega, by omega, by go_num, by rw [ES.out]; exact GX.out, SX.out⟩
        · omega
      · rw [ht] at hbit
        have HB := hid ht
        have IS := GX.out.sets (4 * f + k) (by omega)
        have e1 : (4 * f + k) / 4 = f := by omega
        have e2 : (4 * f + k) % 4 = k := by omega
        rw [e1, e2] at IS
        have I1 := hid IS
        clear ht IS e1 e2
        go_wp2_with fail
        go_at_call 55
        refine (add_is _ _ _ _ T _ I1.out hT).mono ?_
        rintro e wa ⟨rfl, sa, ba, za⟩
        have GN := hid (GX.out.step SM.out hx hf hlt HB.out sa ba)
        have SN := hid (SX.out.beside ba za ⟨k, hlt, rfl⟩)
        clear sa ba za
        go_wp2_with fail
        go_roundg (4 - (k + 1))
        · exact ⟨k + 1, by omega, by omega, by go_num, GN.out, SN.out⟩
        · omega
    · have hlti : ¬ (k : Int) < 4 := by omega
      have ek : k = 4 := by omega
      subst ek
      go_wp2_with fail
      go_ret
      exact ⟨rfl, GX.out, SX.out⟩
/-- What Add answers where nothing is added. -/
def addWhy (n : Nat) (f t x : Int) : Int := if (f < 0 ∨ (n : Int) ≤ f) ∨ (t < 0 ∨ (n : Int) ≤ t) then 60 else if x < 1 ∨ 15 < x ∨ f = t then 1 else 0
theorem gadd_no (b n r : Nat) (bk ck : Nat → Nat) (L : Nat → Nat → Nat) (f t x : Int) (w : World) (h : Graph w b n r bk ck L) (hw : addWhy n f t x ≠ 0) :
    Calls Tryz.prog 37 #[.pointer (some ⟨b, 0, none⟩), .int .i64 f, .int .i64 t, .int .i64 x] w fun e w' => e = .returned (.int .i64 (addWhy n f t x)) ∧ w = w' := by
  have H0 := hid (gMade_at b true w h.c0)
  have c0 := h.c0
  have c1 := h.c1
  clear h
  by_cases hf : f < 0 ∨ (n : Int) ≤ f
  · have e : addWhy n f t x = 60 := by unfold addWhy; rw [if_pos (.inl hf)]
    rw [e]
    have H1 := hid (ghas_no b n f w c0 c1 hf)
    clear hf hw e c0 c1
    go_enter Tryz.func37, Tryz.ntmps37
    go_wp2_with fail
    refine H0.out.mono ?_
    rintro e w' ⟨rfl, rfl⟩
    go_wp2_with fail
    refine H1.out.mono ?_
    rintro e w' ⟨rfl, rfl⟩
    go_wp2_with fail
    go_ret
    exact ⟨rfl, rfl⟩
  · obtain ⟨F, rfl⟩ : ∃ F : Nat, f = F := ⟨f.toNat, by omega⟩
    have H1 := hid (ghas_ok b n F w c0 c1 (by omega))
    by_cases ht : t < 0 ∨ (n : Int) ≤ t
    · have e : addWhy n F t x = 60 := by unfold addWhy; rw [if_pos (.inr ht)]
      rw [e]
      have H2 := hid (ghas_no b n t w c0 c1 ht)
      clear hf ht hw e c0 c1
      go_enter Tryz.func37, Tryz.ntmps37
      go_wp2_with fail
      refine H0.out.mono ?_
      rintro e w' ⟨rfl, rfl⟩
      go_wp2_with fail
      refine H1.out.mono ?_
      rintro e w' ⟨rfl, rfl⟩
      go_wp2_with fail
      refine H2.out.mono ?_
      rintro e w' ⟨rfl, rfl⟩
      go_wp2_with fail
      go_ret
      exact ⟨rfl, rfl⟩
    · obtain ⟨T, rfl⟩ : ∃ T : Nat, t = T := ⟨t.toNat, by omega⟩
      have H2 := hid (ghas_ok b n T w c0 c1 (by omega))
      have hb : x < 1 ∨ 15 < x ∨ (F : Int) = T := by
        unfold addWhy at hw
        rw [if_neg (by omega)] at hw
        apply Classical.byContradiction
        intro h
        rw [if_neg h] at hw
        exact hw rfl
      have e : addWhy n F T x = 1 := by unfold addWhy; rw [if_neg (by omega), if_pos hb]
      rw [e]
      clear hw e c0 c1 hf ht
      by_cases b1 : x < 1
      · go_enter Tryz.func37, Tryz.ntmps37
        go_wp2_with fail
        refine H0.out.mono ?_
        rintro e w' ⟨rfl, rfl⟩
        go_wp2_with fail
        refine H1.out.mono ?_
        rintro e w' ⟨rfl, rfl⟩
        go_wp2_with fail
        refine H2.out.mono ?_
        rintro e w' ⟨rfl, rfl⟩
        go_wp2_with fail
        go_ret
        exact ⟨rfl, rfl⟩
      · by_cases b2 : 15 < x
        · have b3 : ¬ x < 1 := by omega
          go_enter Tryz.func37, Tryz.ntmps37
          go_wp2_with fail
          refine H0.out.mono ?_
          rintro e w' ⟨rfl, rfl⟩
          go_wp2_with fail
          refine H1.out.mono ?_
          rintro e w' ⟨rfl, rfl⟩
          go_wp2_with fail
          refine H2.out.mono ?_
          rintro e w' ⟨rfl, rfl⟩
          go_wp2_with fail
          go_ret
          exact ⟨rfl, rfl⟩
        · have b3 : (1 : Int) ≤ x := by omega
          have b4 : x ≤ 15 := by omega
          have b5 : ((F : Int) == (T : Int)) = true := by simp; omega
          clear hb b1 b2
          go_enter Tryz.func37, Tryz.ntmps37
          go_wp2_with fail
          refine H0.out.mono ?_
          rintro e w' ⟨rfl, rfl⟩
          go_wp2_with fail
          refine H1.out.mono ?_
          rintro e w' ⟨rfl, rfl⟩
          go_wp2_with fail
          refine H2.out.mono ?_
          rintro e w' ⟨rfl, rfl⟩
          go_wp2_with fail
          go_ret
          exact ⟨rfl, rfl⟩
end Go.Proofs.YtdihbeffomibeaaGreatDoor
namespace Go.Proofs.YtdihbeffomibeaaGreatDoor
set_option linter.unusedVariables false
set_option linter.unusedSimpArgs false
open Go.RowKit

/-- A dependency, plain: from, to, label, key, the two values, nil, conditional. -/
abbrev MW := Int × Int × Int × ByteArray × Int × Int × Bool × Bool
abbrev MW.src (x : MW) : Int := x.1
abbrev MW.dst (x : MW) : Int := x.2.1
abbrev MW.lab (x : MW) : Int := x.2.2.1
abbrev MW.key (x : MW) : ByteArray := x.2.2.2.1
abbrev MW.va (x : MW) : Int := x.2.2.2.2.1
abbrev MW.vb (x : MW) : Int := x.2.2.2.2.2.1
abbrev MW.nl (x : MW) : Bool := x.2.2.2.2.2.2.1
abbrev MW.cond (x : MW) : Bool := x.2.2.2.2.2.2.2
def encW (x : MW) : List Value := [.int .i64 x.src, .int .i64 x.dst, .int .i64 x.lab, .string x.key, .int .i64 x.va, .int .i64 x.vb, .bool x.nl, .bool x.cond]
theorem encW_len (x : MW) : (encW x).length = 8 := rfl
/-- n dependencies by their cells, in a slice at ao. -/
def Lw (w : World) (ao : Option Addr) (n : Nat) (f : Nat → MW) : Prop := ∀ j, j < n → ∃ b o, ao = some ⟨b, o, none⟩ ∧ b < w.heap.size ∧ ∀ i u, (encW (f j))[i]? = some u → w.cell? ⟨b, o + j * 8 + i, none⟩ = some u
theorem Lw.later {w w' : World} {ao : Option Addr} {n : Nat} {f : Nat → MW} (h : Lw w ao n f) (hb : Below w.heap.size w w') : Lw w' ao n f := fun j hj => by
  obtain ⟨b, o, h1, h2, h4⟩ := h j hj
  exact ⟨b, o, h1, Nat.lt_of_lt_of_le h2 hb.size, fun i u hi => (hb.cell (p := ⟨b, o + j * 8 + i, none⟩) h2).trans (h4 i u hi)⟩
theorem Lw.eight {w : World} {ao : Option Addr} {n : Nat} {f : Nat → MW} (h : Lw w ao n f) (j : Nat) (hj : j < n) : ∃ b o, ao = some ⟨b, o, none⟩ ∧ b < w.heap.size ∧ w.cell? ⟨b, o + j * 8, none⟩ = some (.int .i64 (f j).src) ∧ w.cell? ⟨b, o + j * 8 + 1, none⟩ = some (.int .i64 (f j).dst) ∧ w.cell? ⟨b, o + j * 8 + 2, none⟩ = some (.int .i64 (f j).lab) ∧ w.cell? ⟨b, o + j * 8 + 3, none⟩ = some (.string (f j).key) ∧ w.cell? ⟨b, o + j * 8 + 4, none⟩ = some (.int .i64 (f j).va) ∧ w.cell? ⟨b, o + j * 8 + 5, none⟩ = some (.int .i64 (f j).vb) ∧ w.cell? ⟨b, o + j * 8 + 6, none⟩ = some (.bool (f j).nl) ∧ w.cell? ⟨b, o + j * 8 + 7, none⟩ = some (.bool (f j).cond) := by
  obtain ⟨b, o, h1, h2, h4⟩ := h j hj
  exact ⟨b, o, h1, h2, h4 0 _ rfl, h4 1 _ rfl, h4 2 _ rfl, h4 3 _ rfl, h4 4 _ rfl, h4 5 _ rfl, h4 6 _ rfl, h4 7 _ rfl⟩

/-- Why Add refuses a dependency; 0: it does not. -/
def whyW (n : Nat) (x : MW) : Int := addWhy n x.src x.dst x.lab
/-- The labels of the first k dependencies, put together. -/
def gL (f : Nat → MW) : Nat → Nat → Nat → Nat
  | 0 => fun _ _ => 0
  | k + 1 => addL (gL f k) (f k).src.toNat (f k).dst.toNat (f k).lab.toNat 4
/-- The first one that is refused, and why. -/
def Refused (n len : Nat) (f : Nat → MW) (why : Int) : Prop := ∃ j, j < len ∧ (∀ i, i < j → whyW n (f i) = 0) ∧ whyW n (f j) ≠ 0 ∧ why = whyW n (f j)
/-- What deps.Graph hands back. -/
def GraphPost (n len : Nat) (f : Nat → MW) (w : World) (e : Ending) (w' : World) : Prop :=
  ((∃ why, Refused n len f why ∧ e = .returned (.tuple #[.pointer none, .int .i64 why])) ∨ ((∀ i, i < len → whyW n (f i) = 0) ∧ ∃ b r bk ck, e = .returned (.tuple #[.pointer (some ⟨b, 0, none⟩), .int .i64 0]) ∧ Graph w' b n r bk ck (gL f len) ∧ w.heap.size ≤ b ∧ ∀ k, k < 4 * n → w.heap.size ≤ ck k)) ∧ Below w.heap.size w w'
theorem why_zero {n : Nat} {x : MW} (h : whyW n x = 0) : ∃ F T X : Nat, x.src = F ∧ x.dst = T ∧ x.lab = X ∧ F < n ∧ T < n ∧ 1 ≤ X ∧ X < 16 ∧ F ≠ T := by
  unfold whyW addWhy at h
  split at h
  · cases h
  · split at h
    · cases h
    · exact ⟨x.src.toNat, x.dst.toNat, x.lab.toNat, by omega, by omega, by omega, by omega, by omega, by omega, by omega, by omega⟩

set_option maxHeartbeats 4000000 in
/-- deps.Graph of too many nodes, or of fewer than none. -/
theorem dgraph_no (n : Int) (hn : n < 0 ∨ 300 < n) (v : Value) (w : World) : Calls Tryz.prog 19 #[.int .i64 n, v] w fun e w' => e = .returned (.tuple #[.pointer none, .int .i64 1]) ∧ Below w.heap.size w w' := by
  have N1 := hid (gnew_no n hn)
  clear hn
  go_enter Tryz.func19, Tryz.ntmps19
  go_wp2_with fail
  go_at_call 36
  refine (N1.out _).mono ?_
  rintro e w1 ⟨rfl, rfl⟩
  go_wp2_with fail
  refine bodyPost_ret (v := .tuple #[.pointer none, .int .i64 1]) (by simp [results, Tryz.results19, go_sem]) rfl ⟨rfl, Below.refl _ _⟩

set_option maxHeartbeats 8000000 in
set_option maxRecDepth 100000 in
/-- deps.Graph. -/
theorem dgraph_is (n : Nat) (hn : n ≤ 300) (ao : Option Addr) (c len : Nat) (f : Nat → MW) (w : World) (hl : Lw w ao len f) (hlen : len ≤ 9223372036854775807) : Calls Tryz.prog 19 #[.int .i64 n, .slice ao len c] w fun e w' => GraphPost n len f w e w' := by
  have N1 := hid (gnew_ok n hn)
  have HZ := hid hl
  clear hl
  have hleni : (len : Int) ≤ 9223372036854775807 := by omega
  go_enter Tryz.func19, Tryz.ntmps19
  go_wp2_with fail
  go_at_call 36
  refine (N1.out _).mono ?_
  rintro e w1 ⟨rfl, s1, b1⟩
  have S1 := hid s1
  have B1 := hid b1
  have LO : Hid (∀ k, k < 4 * n → w.heap.size ≤ w.heap.size + 2 + 2 * k) := fun k _ => by omega
  have LB : Hid (w.heap.size ≤ w.heap.size + 1) := Nat.le_succ _
  clear s1 b1 N1
  obtain ⟨ck, hck⟩ : ∃ ck : Nat → Nat, ck = fun k => w.heap.size + 2 + 2 * k := ⟨_, rfl⟩
  have LO2 : Hid (∀ k, k < 4 * n → w.heap.size ≤ ck k) := fun k hk => by rw [hck]; exact LO.out k hk
  rw [← hck] at S1
  clear hck LO
  generalize (fun k => w.heap.size + 3 + 2 * k : Nat → Nat) = bk at *
  obtain ⟨b, hb⟩ : ∃ b, w.heap.size + 1 = b := ⟨_, rfl⟩
  rw [hb] at S1 LB ⊢
  clear hb
  obtain ⟨r, hr⟩ : ∃ r, w.heap.size = r := ⟨_, rfl⟩
  have S2 : Hid (Graph w1 b n r bk ck (gL f 0)) := by rw [← hr]; exact S1.out
  clear hr S1
  go_wp2_with fail
  go_loopg [9, 10, 21] len (fun g _ _ i wr => ∃ j : Nat, j ≤ len ∧ len - j ≤ g ∧ i = .int .i64 j ∧ Aside (Graph wr b n r bk ck (gL f j)) ∧ Aside (Below w.heap.size w wr) ∧ Aside (∀ i, i < j → whyW n (f i) = 0))
  case atStart => exact ⟨0, Nat.zero_le _, by omega, rfl, S2.out, B1.out, fun i hi => absurd hi (Nat.not_lt_zero _)⟩
  case round =>
    clear S2 B1
    obtain ⟨j, hj, hg, rfl, GX, BX, OX⟩ := hrel
    by_cases hjl : j < len
    · have hjli : (j : Int) < len := by omega
      obtain ⟨bz, oz, rfl, -, k0, k1, k2, k3, k4, k5, k6, k7⟩ := (HZ.out.later BX.out).eight j hjl
      obtain ⟨X, hX⟩ : ∃ X, f j = X := ⟨_, rfl⟩
      have HX := hid hX
      rw [hX] at k0 k1 k2 k3 k4 k5 k6 k7
      clear hX
      obtain ⟨x, y, z, xk, xa, xb, xn, xc⟩ := X
      simp only [MW.src, MW.dst, MW.lab, MW.key, MW.va, MW.vb, MW.nl, MW.cond] at k0 k1 k2 k3 k4 k5 k6 k7
      have AL := hid (below_box wr (.cells #[.int .i64 x, .int .i64 y, .int .i64 z, .string xk, .int .i64 xa, .int .i64 xb, .bool xn, .bool xc] 25))
      have G2 := hid (GX.out.later AL.out)
      have B2 := hid (BX.out.trans (AL.out.mono BX.out.size))
      by_cases hw : whyW n (f j) = 0
      · have hw2 := hw
        rw [HX.out] at hw2
        obtain ⟨F, T, Xl, e1, e2, e3, hF, hT, hX1, hX2, hne⟩ := why_zero hw2
        simp only [MW.src, MW.dst, MW.lab] at e1 e2 e3
        subst e1 e2 e3
        have AD := hid (gadd_ok b n r bk ck (gL f j) F T Xl _ G2.out hF hT hX1 hX2 hne)
        have EL : Hid (addL (gL f j) F T Xl 4 = gL f (j + 1)) := by
          show _ = addL (gL f j) (f j).src.toNat (f j).dst.toNat (f j).lab.toNat 4
          rw [HX.out]
          rfl
        have HF := hid hF
        have HW := hid hw
        clear hw hw2 hF hT hX1 hX2 hne
        go_wp2_with fail
        go_at_call 37
        refine AD.out.mono ?_
        rintro e w5 ⟨rfl, s5, b5⟩
        rw [EL.out] at s5
        have S5 := hid s5
        have B5 : Hid (Below w.heap.size w w5) := B2.out.trans (b5.below w.heap.size (fun k hk => by obtain ⟨i, hi, rfl⟩ := hk; exact LO2.out _ (by have := HF.out; omega)) B2.out.size)
        have O5 : Hid (∀ i, i < j + 1 → whyW n (f i) = 0) := fun i hi => by
          by_cases e : i = j
          · rw [e]; exact HW.out
          · exact OX.out i (by omega)
        clear s5 b5 AD EL k0 k1 k2 k3 k4 k5 k6 k7
        go_wp2_with fail
        go_roundg (len - (j + 1))
        case measure => omega
        case rel => exact ⟨j + 1, by omega, by omega, by go_num, S5.out, B5.out, O5.out⟩
      · have hw2 := hw
        rw [HX.out] at hw2
        have AD := hid (gadd_no b n r bk ck (gL f j) x y z _ G2.out hw2)
        have ER : Hid (Refused n len f (addWhy n x y z)) := ⟨j, hjl, OX.out, hw, by rw [HX.out]; rfl⟩
        have hw3 : ¬ addWhy n x y z = 0 := hw2
        have hw4 : (addWhy n x y z == 0) = false := by simp [hw3]
        clear hw hw2
        generalize addWhy n x y z = why at *
        go_wp2_with fail
        go_at_call 37
        refine AD.out.mono ?_
        rintro e w5 ⟨rfl, rfl⟩
        have PO : Hid (GraphPost n len f w (.returned (.tuple #[.pointer none, .int .i64 why])) (wr.alloc (.cells #[.int .i64 x, .int .i64 y, .int .i64 z, .string xk, .int .i64 xa, .int .i64 xb, .bool xn, .bool xc] 25))) := ⟨.inl ⟨why, ER.out, rfl⟩, B2.out⟩
        clear AD k0 k1 k2 k3 k4 k5 k6 k7
        go_wp2_with fail
        refine bodyPost_ret (v := .tuple #[.pointer none, .int .i64 why]) (by simp [results, Tryz.results19, go_sem]) rfl PO.out
    · have hjli : ¬ (j : Int) < len := by omega
      have hjn : len = j := by omega
      have PO : Hid (GraphPost n len f w (.returned (.tuple #[.pointer (some ⟨b, 0, none⟩), .int .i64 0])) wr) := by
        refine ⟨.inr ⟨fun i hi => OX.out i (by omega), b, r, bk, ck, rfl, ?_, LB.out, LO2.out⟩, BX.out⟩
        rw [hjn]
        exact GX.out
      clear hjn
      go_wp2_with fail
      refine bodyPost_ret (v := .tuple #[.pointer (some ⟨b, 0, none⟩), .int .i64 0]) (by simp [results, Tryz.results19, go_sem]) rfl PO.out
end Go.Proofs.YtdihbeffomibeaaGreatDoor
namespace Go.Proofs.YtdihbeffomibeaaGreatDoor
set_option linter.unusedVariables false
set_option linter.unusedSimpArgs false
open Go.RowKit Go.Lib

theorem info_parts {P : Program} {t : TypeId} {z : Option Value} {s b : Nat} (h : (P.info? t).map (fun i => (i.zero, i.size, i.bytes)) = some (z, s, b)) : ∃ i, P.info? t = some i ∧ i.zero = z ∧ i.size = s ∧ i.bytes = b := by
  cases hi : P.info? t with
  | none => rw [hi] at h; cases h
  | some i => rw [hi] at h; simp at h; exact ⟨i, rfl, h.1, h.2.1, h.2.2⟩
theorem flatten_len {α : Type} (k : Nat) : ∀ (rows : List (List α)), (∀ r ∈ rows, r.length = k) → rows.flatten.length = rows.length * k
  | [], _ => by simp
  | r :: rows, h => by
    have := flatten_len k rows (fun x hx => h x (by simp [hx]))
    simp only [List.flatten_cons, List.length_append, List.length_cons, this, h r (by simp)]
    rw [Nat.add_mul]; omega
theorem flatten_get {α : Type} (k : Nat) : ∀ (rows : List (List α)) (j i : Nat), (∀ r ∈ rows, r.length = k) → j < rows.length → i < k → rows.flatten[j * k + i]? = (rows.getD j [])[i]?
  | [], j, i, _, h, _ => by simp at h
  | r :: rows, 0, i, h, _, hi => by
    have hr := h r (by simp)
    simp only [List.flatten_cons, Nat.zero_mul, Nat.zero_add]
    rw [List.getElem?_append_left (by omega)]
    simp
  | r :: rows, j + 1, i, h, hj, hi => by
    have hr := h r (by simp)
    have ih := flatten_get k rows j i (fun x hx => h x (by simp [hx])) (by simpa using hj) hi
    simp only [List.flatten_cons]
    rw [List.getElem?_append_right (by rw [hr, Nat.add_mul]; omega), hr, show (j + 1) * k + i - k = j * k + i by rw [Nat.add_mul]; omega, ih]
    simp

def MW.zero : MW := (0, 0, 0, ⟨#[]⟩, 0, 0, false, false)
theorem encW_one (x : MW) : ∀ u ∈ encW x, u.oneCell' = true := fun u hu => by
  simp only [encW, List.mem_cons, List.not_mem_nil, or_false] at hu
  rcases hu with rfl | rfl | rfl | rfl | rfl | rfl | rfl | rfl <;> rfl
theorem Lw.take {w : World} {ao : Option Addr} {n m : Nat} {f : Nat → MW} (h : Lw w ao n f) (hm : m ≤ n) : Lw w ao m f := fun j hj => h j (by omega)
theorem Lw.congr {w : World} {ao : Option Addr} {n : Nat} {f f' : Nat → MW} (h : Lw w ao n f) (he : ∀ j, j < n → f' j = f j) : Lw w ao n f' := fun j hj => by rw [he j hj]; exact h j hj

def rowsW (f : Nat → MW) (n : Nat) : List (List Value) := (List.range n).map (fun j => encW (f j))
theorem rowsW_size (f : Nat → MW) (n : Nat) : ∀ r ∈ rowsW f n, r.length = 8 := fun r hr => by
  obtain ⟨j, _, rfl⟩ := List.mem_map.1 hr
  rfl
theorem rowsW_len (f : Nat → MW) (n : Nat) : (rowsW f n).length = n := by simp [rowsW]
theorem rowsW_at (f : Nat → MW) (n j i : Nat) (hj : j < n) (hi : i < 8) : (rowsW f n).flatten[j * 8 + i]? = (encW (f j))[i]? := by
  rw [flatten_get 8 _ j i (rowsW_size f n) (by rw [rowsW_len]; exact hj) hi]
  simp [rowsW, List.getD, hj]
theorem rowsW_get (f : Nat → MW) (n x : Nat) (u : Value) (h : (rowsW f n).flatten[x]? = some u) : x / 8 < n ∧ (encW (f (x / 8)))[x % 8]? = some u := by
  have hx := (List.getElem?_eq_some_iff.1 h).1
  rw [flatten_len 8 _ (rowsW_size f n), rowsW_len] at hx
  have h1 : x / 8 < n := by omega
  refine ⟨h1, ?_⟩
  rw [← rowsW_at f n (x / 8) (x % 8) h1 (by omega), show x / 8 * 8 + x % 8 = x by omega]
  exact h
theorem rowsW_one (f : Nat → MW) (n : Nat) : ∀ u ∈ (rowsW f n).flatten, u.oneCell' = true := fun u hu => by
  obtain ⟨r, hr, hur⟩ := List.mem_flatten.1 hu
  obtain ⟨j, hj, rfl⟩ := List.mem_map.1 hr
  exact encW_one _ u hur
theorem Lw.news {w : World} {ad : Addr} {n : Nat} {f : Nat → MW} (A : Lw w (some ad) n f) (j : Nat) (u : Value) (hj : (rowsW f n).flatten[j]? = some u) : w.cell? (ad.add j) = some u := by
  obtain ⟨h1, h2⟩ := rowsW_get f n j u hj
  obtain ⟨b, o, e, _, h3⟩ := A (j / 8) h1
  cases e
  have := h3 (j % 8) u h2
  rw [Addr.add_lit]
  rwa [Nat.add_assoc, show j / 8 * 8 + j % 8 = j by omega] at this
/-- A row of one's own, by its cells. -/
theorem owns_lw {w : World} {B n m : Nat} {v : Value} {f : Nat → MW} (h : w.ownsRow B 25 8 v n (rowsW f n).flatten) : ∃ ao c, v = .slice ao n c ∧ n ≤ c ∧ Lw w ao n f := by
  rcases h.2 with ⟨hv, hn⟩ | ⟨g, cap, cur, hv, hg, hh, hcap, hm, hsz, ht⟩
  · exact ⟨none, 0, by rw [hv, hn], by omega, fun j hj => by omega⟩
  · refine ⟨some ⟨g, 0, none⟩, cap, hv, hcap, fun j hj => ⟨g, 0, rfl, (h.lt g (by rw [hv]; rfl)).2, fun i u hi => ?_⟩⟩
    have hi8 : i < 8 := by have := (List.getElem?_eq_some_iff.1 hi).1; rwa [encW_len] at this
    have := h.cells (g := g) (by rw [hv]; rfl) (j * 8 + i) u (by rw [rowsW_at f n j i hj hi8]; exact hi)
    rw [Addr.add_lit] at this
    simpa using this

/-- Which dependencies are meant. -/
def mt (f : Nat → MW) (a b c : Int) (j : Nat) : Prop := (f j).src = a ∧ (f j).dst = b ∧ (f j).lab = c
/-- What there is to find. -/
def IsFind (f : Nat → MW) (n : Nat) (a b c : Int) (x : MW) (ok : Bool) : Prop :=
  (∃ k, k < n ∧ mt f a b c k ∧ (f k).cond = false ∧ (∀ j, j < k → mt f a b c j → (f j).cond = true) ∧ x = f k ∧ ok = true) ∨
  ((∀ j, j < n → mt f a b c j → (f j).cond = true) ∧ ((∃ k, k < n ∧ mt f a b c k ∧ (∀ j, j < k → ¬ mt f a b c j) ∧ x = f k ∧ ok = true) ∨ ((∀ j, j < n → ¬ mt f a b c j) ∧ x = MW.zero ∧ ok = false)))
theorem IsFind.one {f : Nat → MW} {n : Nat} {a b c : Int} {x y : MW} {p q : Bool} (h : IsFind f n a b c x p) (g : IsFind f n a b c y q) : x = y ∧ p = q := by
  rcases h with ⟨k, h1, h2, h3, h4, rfl, rfl⟩ | ⟨h0, h⟩
  · rcases g with ⟨m, g1, g2, g3, g4, rfl, rfl⟩ | ⟨g0, g⟩
    · have : k = m := by
        rcases Nat.lt_trichotomy k m with hl | hl | hl
        · have := g4 k hl h2; rw [h3] at this; cases this
        · exact hl
        · have := h4 m hl g2; rw [g3] at this; cases this
      subst this
      exact ⟨rfl, rfl⟩
    · have := g0 k h1 h2; rw [h3] at this; cases this
  · rcases g with ⟨m, g1, g2, g3, g4, rfl, rfl⟩ | ⟨g0, g⟩
    · have := h0 m g1 g2; rw [g3] at this; cases this
    · rcases h with ⟨k, h1, h2, h3, rfl, rfl⟩ | ⟨h1, rfl, rfl⟩
      · rcases g with ⟨m, g1, g2, g3, rfl, rfl⟩ | ⟨g1, rfl, rfl⟩
        · have : k = m := by
            rcases Nat.lt_trichotomy k m with hl | hl | hl
            · exact absurd h2 (g3 k hl)
            · exact hl
            · exact absurd g2 (h3 m hl)
          subst this
          exact ⟨rfl, rfl⟩
        · exact absurd h2 (g1 k h1)
      · rcases g with ⟨m, g1, g2, g3, rfl, rfl⟩ | ⟨g1, rfl, rfl⟩
        · exact absurd g2 (h1 m g1)
        · exact ⟨rfl, rfl⟩
/-- What the program knows behind k of them. -/
def Fs (f : Nat → MW) (k : Nat) (a b c : Int) (x : MW) (ok : Bool) : Prop := (∀ j, j < k → mt f a b c j → (f j).cond = true) ∧ ((∃ i, i < k ∧ mt f a b c i ∧ (∀ j, j < i → ¬ mt f a b c j) ∧ x = f i ∧ ok = true) ∨ ((∀ j, j < k → ¬ mt f a b c j) ∧ x = MW.zero ∧ ok = false))
theorem Fs.first (f : Nat → MW) (a b c : Int) : Fs f 0 a b c MW.zero false := ⟨fun j h => by omega, .inr ⟨fun j h => by omega, rfl, rfl⟩⟩
theorem Fs.no {f : Nat → MW} {k : Nat} {a b c : Int} {x : MW} {ok : Bool} (h : Fs f k a b c x ok) (hn : ¬ mt f a b c k) : Fs f (k + 1) a b c x ok := by
  refine ⟨fun j hj hm => ?_, ?_⟩
  · by_cases e : j = k
    · subst e; exact absurd hm hn
    · exact h.1 j (by omega) hm
  · rcases h.2 with ⟨i, h1, h2⟩ | ⟨h1, h2⟩
    · exact .inl ⟨i, by omega, h2⟩
    · refine .inr ⟨fun j hj hm => ?_, h2⟩
      by_cases e : j = k
      · subst e; exact hn hm
      · exact h1 j (by omega) hm
theorem Fs.more {f : Nat → MW} {k : Nat} {a b c : Int} {x : MW} (h : Fs f k a b c x true) (hc : (f k).cond = true) : Fs f (k + 1) a b c x true := by
  refine ⟨fun j hj hm => ?_, ?_⟩
  · by_cases e : j = k
    · subst e; exact hc
    · exact h.1 j (by omega) hm
  · rcases h.2 with ⟨i, h1, h2⟩ | ⟨h1, h2, h3⟩
    · exact .inl ⟨i, by omega, h2⟩
    · cases h3
theorem Fs.take {f : Nat → MW} {k : Nat} {a b c : Int} {x : MW} (h : Fs f k a b c x false) (hm : mt f a b c k) (hc : (f k).cond = true) : Fs f (k + 1) a b c (f k) true := by
  refine ⟨fun j hj hm => ?_, .inl ⟨k, by omega, hm, ?_, rfl, rfl⟩⟩
  · by_cases e : j = k
    · subst e; exact hc
    · exact h.1 j (by omega) hm
  · rcases h.2 with ⟨i, h1, h2, h3, h4, h5⟩ | ⟨h1, h2, h3⟩
    · cases h5
    · exact h1
theorem Fs.found {f : Nat → MW} {k n : Nat} {a b c : Int} {x : MW} {ok : Bool} (h : Fs f k a b c x ok) (hk : k < n) (hm : mt f a b c k) (hc : (f k).cond = false) : IsFind f n a b c (f k) true := .inl ⟨k, hk, hm, hc, h.1, rfl, rfl⟩
theorem Fs.done {f : Nat → MW} {n : Nat} {a b c : Int} {x : MW} {ok : Bool} (h : Fs f n a b c x ok) : IsFind f n a b c x ok := .inr h
end Go.Proofs.YtdihbeffomibeaaGreatDoor
