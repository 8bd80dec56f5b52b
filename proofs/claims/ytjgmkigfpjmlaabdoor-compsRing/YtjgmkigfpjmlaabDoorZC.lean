/-
  Graphs: what they look like in memory; Nodes, row, labelsIn, Labels.
-/
import Derived.Deep.RegionWith
import Derived.Test.YtjgmkigfpjmlaabDoorZB
namespace Go.Proofs.YtjgmkigfpjmlaabDoor
set_option linter.unusedVariables false
set_option linter.unusedSimpArgs false
open Go.RowKit

/-- A graph of n nodes in block b, its sets' places in block r; the set k lies in block bk k, its words in block ck k; L tells an edge's labels. -/
structure Graph (w : World) (b n r : Nat) (bk ck : Nat → Nat) (L : Nat → Nat → Nat) : Prop where
  box : w.heap[b]? = some (.cells #[.bool true, .int .i64 n, .slice (some ⟨r, 0, none⟩) (4 * n) (4 * n)] 61)
  row : ∃ cur : Array Value, w.heap[r]? = some (.cells cur 45) ∧ cur.size = 4 * n ∧ ∀ k, k < 4 * n → cur[k]? = some (.pointer (some ⟨bk k, 0, none⟩))
  sets : ∀ k, k < 4 * n → Is w (bk k) n (ck k) (fun to => (L (k / 4) to).testBit (k % 4))
  apart : ∀ k k', k < 4 * n → k' < 4 * n → k ≠ k' → ck k ≠ ck k'
  small : ∀ f t, L f t < 16
  bound : n ≤ 300
theorem Graph.later {w w' : World} {b n r : Nat} {bk ck : Nat → Nat} {L : Nat → Nat → Nat} (h : Graph w b n r bk ck L) (hb : Below w.heap.size w w') : Graph w' b n r bk ck L := by
  obtain ⟨cur, h1, h2, h3⟩ := h.row
  exact ⟨(hb.block b (blt h.box)).trans h.box, ⟨cur, (hb.block r (blt h1)).trans h1, h2, h3⟩, fun k hk => (h.sets k hk).later hb, h.apart, h.small, h.bound⟩
theorem Graph.c0 {w : World} {b n r : Nat} {bk ck : Nat → Nat} {L : Nat → Nat → Nat} (h : Graph w b n r bk ck L) : w.cell? ⟨b, 0, none⟩ = some (.bool true) := Lib.cell_of_heap h.box 0
theorem Graph.c1 {w : World} {b n r : Nat} {bk ck : Nat → Nat} {L : Nat → Nat → Nat} (h : Graph w b n r bk ck L) : w.cell? ⟨b, 1, none⟩ = some (.int .i64 n) := Lib.cell_of_heap h.box 1
theorem Graph.c2 {w : World} {b n r : Nat} {bk ck : Nat → Nat} {L : Nat → Nat → Nat} (h : Graph w b n r bk ck L) : w.cell? ⟨b, 2, none⟩ = some (.slice (some ⟨r, 0, none⟩) (4 * n) (4 * n)) := Lib.cell_of_heap h.box 2
theorem Graph.at {w : World} {b n r : Nat} {bk ck : Nat → Nat} {L : Nat → Nat → Nat} (h : Graph w b n r bk ck L) (k : Nat) (hk : k < 4 * n) : w.cell? ⟨r, k, none⟩ = some (.pointer (some ⟨bk k, 0, none⟩)) := by
  obtain ⟨cur, h1, h2, h3⟩ := h.row
  exact (Lib.cell_of_heap h1 k).trans (h3 k hk)

theorem gMade_at (b : Nat) (m : Bool) (w : World) (h : w.cell? ⟨b, 0, none⟩ = some (.bool m)) : Calls Tryd.prog 28 #[.pointer (some ⟨b, 0, none⟩)] w fun e w' => e = .returned (.bool m) ∧ w = w' := by
  go_enter Tryd.func28, Tryd.ntmps28
  go_wp2
  go_ret
  exact ⟨rfl, rfl⟩
theorem nodes_is (b n : Nat) (w : World) (c0 : w.cell? ⟨b, 0, none⟩ = some (.bool true)) (c1 : w.cell? ⟨b, 1, none⟩ = some (.int .i64 n)) : Calls Tryd.prog 37 #[.pointer (some ⟨b, 0, none⟩)] w fun e w' => e = .returned (.int .i64 n) ∧ w = w' := by
  go_enter Tryd.func37, Tryd.ntmps37
  go_wp2_with (go_at_call 28; refine (gMade_at _ _ _ c0).mono ?_; rintro e w' ⟨rfl, rfl⟩)
  go_ret
  exact ⟨rfl, rfl⟩
theorem ghas_ok (b n : Nat) (i : Nat) (w : World) (c0 : w.cell? ⟨b, 0, none⟩ = some (.bool true)) (c1 : w.cell? ⟨b, 1, none⟩ = some (.int .i64 n)) (hi : i < n) : Calls Tryd.prog 29 #[.pointer (some ⟨b, 0, none⟩), .int .i64 i] w fun e w' => e = .returned (.bool true) ∧ w = w' := by
  have h1 : (0 : Int) ≤ i := by omega
  have h2 : (i : Int) < n := by omega
  go_enter Tryd.func29, Tryd.ntmps29
  go_wp2_with (go_at_call 28; refine (gMade_at _ _ _ c0).mono ?_; rintro e w' ⟨rfl, rfl⟩)
  go_ret
  exact ⟨rfl, rfl⟩
theorem ghas_no (b n : Nat) (i : Int) (w : World) (c0 : w.cell? ⟨b, 0, none⟩ = some (.bool true)) (c1 : w.cell? ⟨b, 1, none⟩ = some (.int .i64 n)) (hi : i < 0 ∨ (n : Int) ≤ i) : Calls Tryd.prog 29 #[.pointer (some ⟨b, 0, none⟩), .int .i64 i] w fun e w' => e = .returned (.bool false) ∧ w = w' := by
  rcases hi with h | h
  · have h1 : ¬ (0 : Int) ≤ i := by omega
    have h2 : decide (0 ≤ i) = false := by simp; omega
    go_enter Tryd.func29, Tryd.ntmps29
    go_wp2_with (go_at_call 28; refine (gMade_at _ _ _ c0).mono ?_; rintro e w' ⟨rfl, rfl⟩)
    go_ret
    exact ⟨rfl, rfl⟩
  · have h1 : (0 : Int) ≤ i := by omega
    have h2 : ¬ i < (n : Int) := by omega
    go_enter Tryd.func29, Tryd.ntmps29
    go_wp2_with (go_at_call 28; refine (gMade_at _ _ _ c0).mono ?_; rintro e w' ⟨rfl, rfl⟩)
    go_ret
    exact ⟨ret_bool (by simp; omega), rfl⟩
theorem row_is (b n r : Nat) (f : Nat) (w : World) (c2 : w.cell? ⟨b, 2, none⟩ = some (.slice (some ⟨r, 0, none⟩) (4 * n) (4 * n))) (hf : f < n) (hn : n ≤ 300) : Calls Tryd.prog 30 #[.pointer (some ⟨b, 0, none⟩), .int .i64 f] w fun e w' => e = .returned (.slice (some ⟨r, 4 * f, none⟩) 4 4) ∧ w = w' := by
  have h1 : (0 : Int) ≤ f := by omega
  have h2 : (f : Int) < n := by omega
  have h3 : (n : Int) ≤ 300 := by omega
  go_enter Tryd.func30, Tryd.ntmps30
  go_wp2
  rw [show 4 * (f + 1) - 4 * f = 4 from by omega]
  go_ret
  exact ⟨rfl, rfl⟩

/-- An edge's labels, whatever the number of its end. -/
def labAt (L : Nat → Nat → Nat) (f : Nat) (to : Int) : Nat := if 0 ≤ to then L f to.toNat else 0
theorem labAt_bit (L : Nat → Nat → Nat) (f i : Nat) (to : Int) : (decide (0 ≤ to) && (L f to.toNat).testBit i) = (labAt L f to).testBit i := by
  unfold labAt
  by_cases h : 0 ≤ to <;> simp [h]
/-- The lowest k bits. -/
def low (x k : Nat) : Nat := x % 2 ^ k
set_option maxRecDepth 100000 in
theorem or_k : ∀ x, x < 16 → ∀ k, k < 4 → x.testBit k = true → bits BinOp.or IntKind.i64 ((low x k : Nat) : Int) (wrap64 (2 ^ k)) = ((low x (k + 1) : Nat) : Int) := by decide +kernel
set_option maxRecDepth 100000 in
theorem no_k : ∀ x, x < 16 → ∀ k, k < 4 → x.testBit k = false → low x k = low x (k + 1) := by decide +kernel
set_option maxRecDepth 100000 in
theorem low_4 : ∀ x, x < 16 → low x 4 = x := by decide +kernel

set_option maxHeartbeats 2000000 in
theorem labelsIn_is (b n r f : Nat) (bk ck : Nat → Nat) (L : Nat → Nat → Nat) (to : Int) (w : World) (h : Graph w b n r bk ck L) (hf : f < n)
    (HA : ∀ i, i < 4 → Calls Tryd.prog 24 #[.pointer (some ⟨bk (4 * f + i), 0, none⟩), .int .i64 to] w fun e w' => e = .returned (.bool ((labAt L f to).testBit i)) ∧ w = w') (hx : labAt L f to < 16) :
    Calls Tryd.prog 70 #[.slice (some ⟨r, 4 * f, none⟩) 4 4, .int .i64 to] w fun e w' => e = .returned (.int .i64 (labAt L f to)) ∧ w = w' := by
  have CA : Hid (∀ i, i < 4 → w.cell? ⟨r, 4 * f + i, none⟩ = some (.pointer (some ⟨bk (4 * f + i), 0, none⟩))) := fun i hi => h.at (4 * f + i) (by omega)
  have H := hid HA
  clear h HA
  generalize labAt L f to = x at *
  go_enter Tryd.func70, Tryd.ntmps70
  go_wp2_with fail
  go_loopg [5, 6, 7, 10] 4 (fun g lab _ _ i wr => ∃ k : Nat, k ≤ 4 ∧ 4 - k ≤ g ∧ i = .int .i64 k ∧ lab = .int .i64 (low x k) ∧ w = wr)
  case atStart => exact ⟨0, by omega, by omega, rfl, by simp [low, Nat.mod_one], rfl⟩
  case round =>
    obtain ⟨k, hk, hg, rfl, rfl, rfl⟩ := hrel
    by_cases hlt : k < 4
    · have hlti : (k : Int) < 4 := by omega
      have ck := CA.out k hlt
      have HC := hid (H.out k hlt)
      cases ht : x.testBit k
      · have e := no_k x hx k hlt ht
        rw [ht] at HC
        have E := hid e
        clear e ht
        go_wp2_with (go_at_call 24; refine HC.out.mono ?_; rintro e w' ⟨rfl, rfl⟩)
        go_roundg (4 - (k + 1))
        · exact ⟨k + 1, by omega, by omega, by go_num, by rw [E.out], rfl⟩
        · omega
      · have e := or_k x hx k hlt ht
        rw [ht] at HC
        have E := hid e
        clear ht e
        obtain ⟨y, hy⟩ : ∃ y, low x k = y := ⟨_, rfl⟩
        rw [hy] at E
        rw [hy]
        clear hy
        go_wp2_with (go_at_call 24; refine HC.out.mono ?_; rintro e w' ⟨rfl, rfl⟩)
        go_roundg (4 - (k + 1))
        · exact ⟨k + 1, by omega, by omega, by go_num, by rw [E.out], rfl⟩
        · omega
    · have hlti : ¬ (k : Int) < 4 := by omega
      have ek : k = 4 := by omega
      subst ek
      have e16 : Hid (low x 4 = x) := low_4 x hx
      go_wp2_with fail
      go_ret
      exact ⟨ret_int (by rw [e16.out]), rfl⟩
theorem Graph.lab16 {w : World} {b n r : Nat} {bk ck : Nat → Nat} {L : Nat → Nat → Nat} (h : Graph w b n r bk ck L) (f : Nat) (to : Int) : labAt L f to < 16 := by
  unfold labAt
  split
  · exact h.small _ _
  · decide
theorem Graph.has {w : World} {b n r : Nat} {bk ck : Nat → Nat} {L : Nat → Nat → Nat} (h : Graph w b n r bk ck L) (f : Nat) (hf : f < n) (to : Int) (i : Nat) (hi : i < 4) :
    Calls Tryd.prog 24 #[.pointer (some ⟨bk (4 * f + i), 0, none⟩), .int .i64 to] w fun e w' => e = .returned (.bool ((labAt L f to).testBit i)) ∧ w = w' := by
  have hs := h.sets (4 * f + i) (by omega)
  have e1 : (4 * f + i) / 4 = f := by omega
  have e2 : (4 * f + i) % 4 = i := by omega
  rw [e1, e2] at hs
  rw [← labAt_bit]
  by_cases ht : 0 ≤ to ∧ to < n
  · obtain ⟨T, rfl⟩ : ∃ T : Nat, to = T := ⟨to.toNat, by omega⟩
    have e : (decide ((0 : Int) ≤ T) && (L f (T : Int).toNat).testBit i) = (L f T).testBit i := by simp
    rw [e]
    exact has_is _ n _ _ T w hs (by omega)
  · have e : (decide (0 ≤ to) && (L f to.toNat).testBit i) = false := by
      by_cases h0 : 0 ≤ to
      · rw [hs.top to.toNat (by omega)]; simp
      · simp [h0]
    rw [e]
    exact has_off _ n _ _ to w hs (by omega)
theorem labelsIn_at (b n r f : Nat) (bk ck : Nat → Nat) (L : Nat → Nat → Nat) (to : Int) (w : World) (h : Graph w b n r bk ck L) (hf : f < n) :
    Calls Tryd.prog 70 #[.slice (some ⟨r, 4 * f, none⟩) 4 4, .int .i64 to] w fun e w' => e = .returned (.int .i64 (labAt L f to)) ∧ w = w' :=
  labelsIn_is b n r f bk ck L to w h hf (fun i hi => h.has f hf to i hi) (h.lab16 f to)
end Go.Proofs.YtjgmkigfpjmlaabDoor

/-
  graph.New.
-/
namespace Go.Proofs.YtjgmkigfpjmlaabDoor
set_option linter.unusedVariables false
set_option linter.unusedSimpArgs false
open Go.RowKit

theorem Tryd.info23 : (Tryd.prog.info? 45).map (fun i => (i.zero, i.size, i.bytes)) = some (some (.pointer none), 1, 8) := by kernel_rfl
theorem made_ptrs (m : Nat) : madeCells #[Value.pointer none] m = Array.replicate m (Value.pointer none) := by
  apply Array.ext
  · simp [madeCells]
  · intro i h1 h2
    have h0 : i % 1 = 0 := by omega
    simp [madeCells, h0]
/-- A graph that is made: its first k sets are. -/
structure Made (H n k : Nat) (w : World) : Prop where
  size : w.heap.size = H + 2 + 2 * k
  box : w.heap[H + 1]? = some (.cells #[.bool true, .int .i64 n, .slice (some ⟨H, 0, none⟩) (4 * n) (4 * n)] 61)
  row : ∃ cur : Array Value, w.heap[H]? = some (.cells cur 45) ∧ cur.size = 4 * n ∧ (∀ j, j < k → cur[j]? = some (.pointer (some ⟨H + 3 + 2 * j, 0, none⟩))) ∧ ∃ v, k < 4 * n → cur[k]? = some v
  sets : ∀ j, j < k → Is w (H + 3 + 2 * j) n (H + 2 + 2 * j) (fun _ => false)
theorem Made.graph {H n : Nat} {w : World} (h : Made H n (4 * n) w) (hn : n ≤ 300) : Graph w (H + 1) n H (fun k => H + 3 + 2 * k) (fun k => H + 2 + 2 * k) (fun _ _ => 0) := by
  obtain ⟨cur, h1, h2, h3, _⟩ := h.row
  exact ⟨h.box, ⟨cur, h1, h2, h3⟩, fun k hk => (h.sets k hk).congr (fun _ => by simp), fun k k' _ _ hne => by omega, fun _ _ => by decide, hn⟩
theorem Made.next {H n k : Nat} {w wa : World} (h : Made H n k w) (hk : k < 4 * n) (sa : Is wa (w.heap.size + 1) n w.heap.size (fun _ => false)) (ba : Below w.heap.size w wa) (za : wa.heap.size = w.heap.size + 2) :
    Made H n (k + 1) (wa.setCell ⟨H, k, none⟩ (.pointer (some ⟨w.heap.size + 1, 0, none⟩))) := by
  obtain ⟨cur, h1, h2, h3, h4⟩ := h.row
  have hs := h.size
  have hH : H < w.heap.size := by omega
  have hb : Beside H wa (wa.setCell ⟨H, k, none⟩ (.pointer (some ⟨w.heap.size + 1, 0, none⟩))) := (Beside.refl H wa).setCell (p := ⟨H, k, none⟩) rfl _
  have r1 : wa.heap[H]? = some (.cells cur 45) := (ba.block H hH).trans h1
  refine ⟨by simp [World.setCell]; omega, ?_, ⟨cur.setIfInBounds k (.pointer (some ⟨w.heap.size + 1, 0, none⟩)), Go.Joins.block_setCell r1 _, by simpa using h2, fun j hj => ?_, ?_⟩, fun j hj => ?_⟩
  · rw [hb.block (H + 1) (by omega) (by omega), ba.block (H + 1) (by omega)]
    exact h.box
  · rw [Array.getElem?_setIfInBounds]
    by_cases e : k = j
    · subst e
      rw [if_pos rfl, if_pos (by omega)]
      congr 4
      omega
    · rw [if_neg e]
      exact h3 j (by omega)
  · by_cases hk1 : k + 1 < 4 * n
    · refine ⟨cur[k + 1]'(by omega), fun _ => ?_⟩
      rw [Array.getElem?_setIfInBounds, if_neg (by omega), Array.getElem?_eq_getElem]
    · exact ⟨.bool true, fun h => absurd h hk1⟩
  · by_cases e : j = k
    · subst e
      have e1 : H + 3 + 2 * j = w.heap.size + 1 := by omega
      have e2 : H + 2 + 2 * j = w.heap.size := by omega
      rw [e1, e2]
      exact sa.beside hb (by omega) (by omega)
    · exact ((h.sets j (by omega)).later ba).beside hb (by omega) (by omega)

theorem Made.drew {H n k : Nat} {w : World} (h : Made H n k w) : Made H n k w.drew := ⟨h.size, h.box, h.row, fun j hj => (h.sets j hj).later ((Below.refl _ _).drew)⟩

set_option maxHeartbeats 4000000 in
theorem gnew_ok (n : Nat) (hn : n ≤ 300) (w : World) : Calls Tryd.prog 9 #[.int .i64 n] w fun e w' => e = .returned (.tuple #[.pointer (some ⟨w.heap.size + 1, 0, none⟩), .int .i64 0]) ∧ Graph w' (w.heap.size + 1) n w.heap.size (fun k => w.heap.size + 3 + 2 * k) (fun k => w.heap.size + 2 + 2 * k) (fun _ _ => 0) ∧ Below w.heap.size w w' := by
  have hmk := run_make_row' (P := Tryd.prog) 59 45 (.pointer none) 8 Tryd.underlying59 Tryd.info23 rfl .i64 .i64 (4 * n) (by omega) (by omega)
  have h0 : (0 : Int) ≤ n := by omega
  have h1 : (n : Int) ≤ 300 := by omega
  have e1 : ((4 * n : Nat) : Int) = 4 * (n : Int) := by omega
  rw [e1, made_ptrs] at hmk
  clear e1
  go_enter Tryd.func9, Tryd.ntmps9
  go_wp2_with fail
  have M0 : Hid (Made w.heap.size n 0 ((w.alloc (.cells (Array.replicate (4 * n) (Value.pointer none)) 45)).alloc (.cells #[.bool true, .int .i64 n, .slice (some ⟨w.heap.size, 0, none⟩) (4 * n) (4 * n)] 61))) := by
    refine ⟨by simp, ?_, ⟨Array.replicate (4 * n) (Value.pointer none), ?_, by simp, fun j hj => by omega, .pointer none, fun h => by rw [Array.getElem?_replicate, if_pos h]⟩, fun j hj => by omega⟩
    · have := heap_alloc_new (w.alloc (.cells (Array.replicate (4 * n) (Value.pointer none)) 45)) (.cells #[.bool true, .int .i64 n, .slice (some ⟨w.heap.size, 0, none⟩) (4 * n) (4 * n)] 61)
      simpa using this
    · rw [Lib.alloc_old _ _ w.heap.size (by simp)]
      exact heap_alloc_new w _
  have B0 : Hid (Below w.heap.size w ((w.alloc (.cells (Array.replicate (4 * n) (Value.pointer none)) 45)).alloc (.cells #[.bool true, .int .i64 n, .slice (some ⟨w.heap.size, 0, none⟩) (4 * n) (4 * n)] 61))) := (below_box w _).alloc (by simp) _
  clear hmk
  generalize (w.alloc (.cells (Array.replicate (4 * n) (Value.pointer none)) 45)).alloc (.cells #[.bool true, .int .i64 n, .slice (some ⟨w.heap.size, 0, none⟩) (4 * n) (4 * n)] 61) = W0 at *
  go_loopg [5, 23] (4 * n) (fun g _ i wr => ∃ k : Nat, k ≤ 4 * n ∧ 4 * n - k ≤ g ∧ i = .int .i64 k ∧ Aside (Made w.heap.size n k wr) ∧ Aside (Below w.heap.size w wr))
  case atStart => exact ⟨0, Nat.zero_le _, by omega, rfl, M0.out, B0.out⟩
  case round =>
    obtain ⟨k, hk, hg, rfl, MX, BX⟩ := hrel
    by_cases hlt : k < 4 * n
    · have hlti : (k : Int) < 4 * (n : Int) := by omega
      obtain ⟨cur, r1, r2, r3, v, r4⟩ := MX.out.row
      have rk := r4 hlt
      have cb : wr.cell? ⟨w.heap.size + 1, 2, none⟩ = some (.slice (some ⟨w.heap.size, 0, none⟩) (4 * n) (4 * n)) := Lib.cell_of_heap MX.out.box 2
      have ck : wr.cell? ⟨w.heap.size, k, none⟩ = some v := (Lib.cell_of_heap r1 k).trans rk
      have fk : wr.frozen? ⟨w.heap.size, k, none⟩ = false := Lib.frozen_of_heap r1 k
      have hsz := hid MX.out.size
      have hlt1 : w.heap.size + 1 < wr.heap.size := by have := hsz.out; omega
      clear r1 r2 r3 r4 rk
      go_wp2_with fail
      go_region_with (go_at_call 27; refine (new_is n (by omega) _).mono ?_; rintro e wa ⟨rfl, sa, ba, za⟩; have SA := hid sa; have BA := hid ba; have ZA := hid za; have cb2 : wa.cell? ⟨w.heap.size + 1, 2, none⟩ = some (.slice (some ⟨w.heap.size, 0, none⟩) (4 * n) (4 * n)) := (ba.cell (p := ⟨w.heap.size + 1, 2, none⟩) hlt1).trans cb; have ck2 : wa.cell? ⟨w.heap.size, k, none⟩ = some v := (ba.cell (p := ⟨w.heap.size, k, none⟩) (by show w.heap.size < wr.heap.size; omega)).trans ck; have fk2 : wa.frozen? ⟨w.heap.size, k, none⟩ = false := (ba.frozen (p := ⟨w.heap.size, k, none⟩) (by show w.heap.size < wr.heap.size; omega)).trans fk; clear sa ba za)
      all_goals (try go_wp2_with fail)
      all_goals
        have MN := hid (MX.out.drew.next hlt SA.out BA.out ZA.out)
        go_roundg (4 * n - (k + 1))
        · exact ⟨k + 1, by omega, by omega, by go_num, MN.out, (BX.out.drew.trans (BA.out.mono BX.out.size)).setCell (Nat.le_refl _) _⟩
        · omega
    · have hlti : ¬ (k : Int) < 4 * (n : Int) := by omega
      have ek : 4 * n = k := by omega
      have key : Graph wr (w.heap.size + 1) n w.heap.size (fun k => w.heap.size + 3 + 2 * k) (fun k => w.heap.size + 2 + 2 * k) (fun _ _ => 0) := Made.graph (by rw [ek]; exact MX.out) hn
      have KEY := hid key
      clear key ek
      go_wp2_with fail
      go_ret2
      exact ⟨rfl, KEY.out, BX.out⟩
theorem gnew_no (n : Int) (hn : n < 0 ∨ 300 < n) (w : World) : Calls Tryd.prog 9 #[.int .i64 n] w fun e w' => e = .returned (.tuple #[.pointer none, .int .i64 1]) ∧ w = w' := by
  rcases hn with h | h
  · go_enter Tryd.func9, Tryd.ntmps9
    go_wp2
    go_ret2
    exact ⟨rfl, rfl⟩
  · have h0 : ¬ n < 0 := by omega
    go_enter Tryd.func9, Tryd.ntmps9
    go_wp2
    go_ret2
    exact ⟨rfl, rfl⟩
end Go.Proofs.YtjgmkigfpjmlaabDoor

/-
  Add of a graph.
-/
namespace Go.Proofs.YtjgmkigfpjmlaabDoor
set_option linter.unusedVariables false
set_option linter.unusedSimpArgs false
open Go.RowKit

/-- The labels behind Add of the lowest k of some labels. -/
def addL (L : Nat → Nat → Nat) (f T x k : Nat) : Nat → Nat → Nat := fun f' t' => if f' = f ∧ t' = T then L f' t' ||| low x k else L f' t'
theorem low_bit (x k i : Nat) : (low x k).testBit i = (decide (i < k) && x.testBit i) := by
  unfold low
  exact Nat.testBit_mod_two_pow x k i
theorem addL_bit (L : Nat → Nat → Nat) (f T x k f' t' i : Nat) : (addL L f T x k f' t').testBit i = ((L f' t').testBit i || (decide (f' = f ∧ t' = T ∧ i < k) && x.testBit i)) := by
  unfold addL
  by_cases h : f' = f ∧ t' = T
  · rw [if_pos h, Nat.testBit_or, low_bit]
    simp [h.1, h.2]
  · rw [if_neg h]
    have : decide (f' = f ∧ t' = T ∧ i < k) = false := by simp; intro h1 h2; exact absurd ⟨h1, h2⟩ h
    rw [this]
    simp
theorem addL_0 (L : Nat → Nat → Nat) (f T x : Nat) : addL L f T x 0 = L := by
  funext f' t'
  apply Nat.eq_of_testBit_eq
  intro i
  rw [addL_bit]
  simp
theorem addL_skip (L : Nat → Nat → Nat) (f T x k : Nat) (h : x.testBit k = false) : addL L f T x (k + 1) = addL L f T x k := by
  funext f' t'
  apply Nat.eq_of_testBit_eq
  intro i
  rw [addL_bit, addL_bit]
  by_cases e : i = k
  · subst e
    simp [h]
  · congr 2
    rw [Bool.eq_iff_iff]
    simp
    intro _ _
    omega
theorem addL_small (L : Nat → Nat → Nat) (f T x k : Nat) (hL : ∀ f t, L f t < 16) (hx : x < 16) (f' t' : Nat) : addL L f T x k f' t' < 16 := by
  unfold addL
  split
  · exact Nat.or_lt_two_pow (n := 4) (hL _ _) (Nat.lt_of_le_of_lt (Nat.mod_le _ _) hx)
  · exact hL _ _
set_option maxRecDepth 100000 in
theorem bit_is : ∀ x : Nat, x < 16 → ∀ k : Nat, k < 4 → (bits BinOp.and IntKind.i64 ((x : Int) / 2 ^ k) 1 == 1) = x.testBit k := by decide +kernel

/-- w' is w but for blocks of P. -/
structure Save (P : Nat → Prop) (w w' : World) : Prop where
  os : w'.os = w.os
  tape : w'.tape = w.tape
  output : w'.output = w.output
  size : w'.heap.size = w.heap.size
  block : ∀ k, k < w.heap.size → ¬ P k → w'.heap[k]? = w.heap[k]?
theorem Save.refl (P : Nat → Prop) (w : World) : Save P w w := ⟨rfl, rfl, rfl, rfl, fun _ _ _ => rfl⟩
theorem Save.beside {P : Nat → Prop} {w w1 w2 : World} {c : Nat} (h : Save P w w1) (hb : Beside c w1 w2) (hz : w2.heap.size = w1.heap.size) (hc : P c) : Save P w w2 :=
  ⟨hb.os.trans h.os, hb.tape.trans h.tape, hb.output.trans h.output, hz.trans h.size, fun k hk hn => (hb.block k (by rw [h.size]; exact hk) (fun e => hn (by rw [e]; exact hc))).trans (h.block k hk hn)⟩
theorem Save.below {P : Nat → Prop} {w w' : World} (h : Save P w w') (H : Nat) (hH : ∀ k, P k → H ≤ k) (hs : H ≤ w.heap.size) : Below H w w' :=
  ⟨h.os, h.tape, h.output, by rw [h.size]; exact Nat.le_refl _, fun k hk => h.block k (by omega) (fun hp => by have := hH k hp; omega)⟩

theorem Graph.step {w wa : World} {b n r : Nat} {bk ck : Nat → Nat} {L : Nat → Nat → Nat} {f T x k : Nat} (h : Graph w b n r bk ck (addL L f T x k)) (hL : ∀ f t, L f t < 16) (hx : x < 16) (hf : f < n) (hk : k < 4) (hb : x.testBit k = true)
    (sa : Is wa (bk (4 * f + k)) n (ck (4 * f + k)) (fun t => t == T || (addL L f T x k f t).testBit k)) (ba : Beside (ck (4 * f + k)) w wa) : Graph wa b n r bk ck (addL L f T x (k + 1)) := by
  obtain ⟨cur, r1, r2, r3⟩ := h.row
  have hs := h.sets (4 * f + k) (by omega)
  obtain ⟨ws, s1, s2⟩ := hs.ex
  refine ⟨(ba.block b (blt h.box) (tags h.box s1.row (by decide))).trans h.box, ⟨cur, (ba.block r (blt r1) (tags r1 s1.row (by decide))).trans r1, r2, r3⟩, fun k' hk' => ?_, h.apart, addL_small L f T x (k + 1) hL hx, h.bound⟩
  by_cases e : k' = 4 * f + k
  · subst e
    refine sa.congr (fun t => ?_)
    have e1 : (4 * f + k) / 4 = f := by omega
    have e2 : (4 * f + k) % 4 = k := by omega
    rw [e1, e2, addL_bit, addL_bit, hb]
    by_cases e3 : t = T
    · subst e3
      simp
    · simp [e3]
  · have h1 := (h.sets k' hk').beside_set hs (h.apart k' (4 * f + k) hk' (by omega) e) ba
    refine h1.congr (fun t => ?_)
    rw [addL_bit, addL_bit]
    congr 2
    rw [Bool.eq_iff_iff]
    simp
    intro h2 h3
    omega

set_option maxHeartbeats 4000000 in
theorem gadd_ok (b n r : Nat) (bk ck : Nat → Nat) (L : Nat → Nat → Nat) (f T x : Nat) (w : World) (h : Graph w b n r bk ck L) (hf : f < n) (hT : T < n) (hx1 : 1 ≤ x) (hx : x < 16) (hne : f ≠ T) :
    Calls Tryd.prog 10 #[.pointer (some ⟨b, 0, none⟩), .int .i64 f, .int .i64 T, .int .i64 x] w fun e w' => e = .returned (.int .i64 0) ∧ Graph w' b n r bk ck (addL L f T x 4) ∧ Save (fun c => ∃ i, i < 4 ∧ c = ck (4 * f + i)) w w' := by
  have G0 := hid h
  have H0 := hid (gMade_at b true w h.c0)
  have H1 := hid (ghas_ok b n f w h.c0 h.c1 hf)
  have H2 := hid (ghas_ok b n T w h.c0 h.c1 hT)
  have H3 := hid (row_is b n r f w h.c2 hf h.bound)
  have SM := hid h.small
  have hn3 := h.bound
  clear h
  have q1 : (1 : Int) ≤ x := by omega
  have q2 : (x : Int) ≤ 15 := by omega
  have q3 : ((f : Int) == (T : Int)) = false := by simp; omega
  have q4 : (T : Int) < n := by omega
  go_enter Tryd.func10, Tryd.ntmps10
  go_wp2_with fail
  refine H0.out.mono ?_
  rintro e w' ⟨rfl, rfl⟩
  go_wp2_with fail
  refine H1.out.mono ?_
  rintro e w' ⟨rfl, rfl⟩
  go_wp2_with fail
  refine H2.out.mono ?_
  rintro e w' ⟨rfl, rfl⟩
  go_wp2_with fail
  refine H3.out.mono ?_
  rintro e w' ⟨rfl, rfl⟩
  clear H0 H1 H2 H3
  go_wp2_with fail
  go_loopg [9, 10, 39] 4 (fun g _ _ i wr => ∃ k : Nat, k ≤ 4 ∧ 4 - k ≤ g ∧ i = .int .i64 k ∧ Aside (Graph wr b n r bk ck (addL L f T x k)) ∧ Aside (Save (fun c => ∃ i, i < 4 ∧ c = ck (4 * f + i)) w wr))
  case atStart => exact ⟨0, by omega, by omega, rfl, by rw [addL_0]; exact G0.out, Save.refl _ _⟩
  case round =>
    obtain ⟨k, hk, hg, rfl, GX, SX⟩ := hrel
    by_cases hlt : k < 4
    · have hlti : (k : Int) < 4 := by omega
      have cr := GX.out.at (4 * f + k) (by omega)
      have hbit := bit_is x hx k hlt
      cases ht : x.testBit k
      · rw [ht] at hbit
        have ES := hid (addL_skip L f T x k ht)
        clear ht
        go_wp2_with fail
        go_roundg (4 - (k + 1))
        · exact ⟨k + 1, by omega, by omega, by go_num, by rw [ES.out]; exact GX.out, SX.out⟩
        · omega
      · rw [ht] at hbit
        have HB := hid ht
        have IS := GX.out.sets (4 * f + k) (by omega)
        have e1 : (4 * f + k) / 4 = f := by omega
        have e2 : (4 * f + k) % 4 = k := by omega
        rw [e1, e2] at IS
        have I1 := hid IS
        clear ht IS e1 e2
        go_wp2_with fail
        go_at_call 31
        refine (add_is _ _ _ _ T _ I1.out hT).mono ?_
        rintro e wa ⟨rfl, sa, ba, za⟩
        have GN := hid (GX.out.step SM.out hx hf hlt HB.out sa ba)
        have SN := hid (SX.out.beside ba za ⟨k, hlt, rfl⟩)
        clear sa ba za
        go_wp2_with fail
        go_roundg (4 - (k + 1))
        · exact ⟨k + 1, by omega, by omega, by go_num, GN.out, SN.out⟩
        · omega
    · have hlti : ¬ (k : Int) < 4 := by omega
      have ek : k = 4 := by omega
      subst ek
      go_wp2_with fail
      go_ret
      exact ⟨rfl, GX.out, SX.out⟩
/-- What Add answers where nothing is added. -/
def addWhy (n : Nat) (f t x : Int) : Int := if (f < 0 ∨ (n : Int) ≤ f) ∨ (t < 0 ∨ (n : Int) ≤ t) then 60 else if x < 1 ∨ 15 < x ∨ f = t then 1 else 0
theorem gadd_no (b n r : Nat) (bk ck : Nat → Nat) (L : Nat → Nat → Nat) (f t x : Int) (w : World) (h : Graph w b n r bk ck L) (hw : addWhy n f t x ≠ 0) :
    Calls Tryd.prog 10 #[.pointer (some ⟨b, 0, none⟩), .int .i64 f, .int .i64 t, .int .i64 x] w fun e w' => e = .returned (.int .i64 (addWhy n f t x)) ∧ w = w' := by
  have H0 := hid (gMade_at b true w h.c0)
  have c0 := h.c0
  have c1 := h.c1
  clear h
  by_cases hf : f < 0 ∨ (n : Int) ≤ f
  · have e : addWhy n f t x = 60 := by unfold addWhy; rw [if_pos (.inl hf)]
    rw [e]
    have H1 := hid (ghas_no b n f w c0 c1 hf)
    clear hf hw e c0 c1
    go_enter Tryd.func10, Tryd.ntmps10
    go_wp2_with fail
    refine H0.out.mono ?_
    rintro e w' ⟨rfl, rfl⟩
    go_wp2_with fail
    refine H1.out.mono ?_
    rintro e w' ⟨rfl, rfl⟩
    go_wp2_with fail
    go_ret
    exact ⟨rfl, rfl⟩
  · obtain ⟨F, rfl⟩ : ∃ F : Nat, f = F := ⟨f.toNat, by omega⟩
    have H1 := hid (ghas_ok b n F w c0 c1 (by omega))
    by_cases ht : t < 0 ∨ (n : Int) ≤ t
    · have e : addWhy n F t x = 60 := by unfold addWhy; rw [if_pos (.inr ht)]
      rw [e]
      have H2 := hid (ghas_no b n t w c0 c1 ht)
      clear hf ht hw e c0 c1
      go_enter Tryd.func10, Tryd.ntmps10
      go_wp2_with fail
      refine H0.out.mono ?_
      rintro e w' ⟨rfl, rfl⟩
      go_wp2_with fail
      refine H1.out.mono ?_
      rintro e w' ⟨rfl, rfl⟩
      go_wp2_with fail
      refine H2.out.mono ?_
      rintro e w' ⟨rfl, rfl⟩
      go_wp2_with fail
      go_ret
      exact ⟨rfl, rfl⟩
    · obtain ⟨T, rfl⟩ : ∃ T : Nat, t = T := ⟨t.toNat, by omega⟩
      have H2 := hid (ghas_ok b n T w c0 c1 (by omega))
      have hb : x < 1 ∨ 15 < x ∨ (F : Int) = T := by
        unfold addWhy at hw
        rw [if_neg (by omega)] at hw
        apply Classical.byContradiction
        intro h
        rw [if_neg h] at hw
        exact hw rfl
      have e : addWhy n F T x = 1 := by unfold addWhy; rw [if_neg (by omega), if_pos hb]
      rw [e]
      clear hw e c0 c1 hf ht
      by_cases b1 : x < 1
      · go_enter Tryd.func10, Tryd.ntmps10
        go_wp2_with fail
        refine H0.out.mono ?_
        rintro e w' ⟨rfl, rfl⟩
        go_wp2_with fail
        refine H1.out.mono ?_
        rintro e w' ⟨rfl, rfl⟩
        go_wp2_with fail
        refine H2.out.mono ?_
        rintro e w' ⟨rfl, rfl⟩
        go_wp2_with fail
        go_ret
        exact ⟨rfl, rfl⟩
      · by_cases b2 : 15 < x
        · have b3 : ¬ x < 1 := by omega
          go_enter Tryd.func10, Tryd.ntmps10
          go_wp2_with fail
          refine H0.out.mono ?_
          rintro e w' ⟨rfl, rfl⟩
          go_wp2_with fail
          refine H1.out.mono ?_
          rintro e w' ⟨rfl, rfl⟩
          go_wp2_with fail
          refine H2.out.mono ?_
          rintro e w' ⟨rfl, rfl⟩
          go_wp2_with fail
          go_ret
          exact ⟨rfl, rfl⟩
        · have b3 : (1 : Int) ≤ x := by omega
          have b4 : x ≤ 15 := by omega
          have b5 : ((F : Int) == (T : Int)) = true := by simp; omega
          clear hb b1 b2
          go_enter Tryd.func10, Tryd.ntmps10
          go_wp2_with fail
          refine H0.out.mono ?_
          rintro e w' ⟨rfl, rfl⟩
          go_wp2_with fail
          refine H1.out.mono ?_
          rintro e w' ⟨rfl, rfl⟩
          go_wp2_with fail
          refine H2.out.mono ?_
          rintro e w' ⟨rfl, rfl⟩
          go_wp2_with fail
          go_ret
          exact ⟨rfl, rfl⟩
end Go.Proofs.YtjgmkigfpjmlaabDoor

/-
  Out of a graph: gather at numbers.
-/
namespace Go.Proofs.YtjgmkigfpjmlaabDoor
set_option linter.unusedVariables false
set_option linter.unusedSimpArgs false
open Go.RowKit

theorem outC (a b : Int) (w : World) : Calls Tryd.prog 57 #[.int .i64 a, .int .i64 b] w fun e w' => e = .returned (.int .i64 a) ∧ w = w' := by
  go_enter Tryd.func57, Tryd.ntmps57
  go_wp2
  go_ret
  exact ⟨rfl, rfl⟩

theorem ints_mono {B B' : Nat} {w : World} {v : Value} {l : List Nat} (h : Ints B w v l) (hb : B' ≤ B) : Ints B' w v l := by
  refine ⟨h.1, ?_⟩
  rcases h.2 with h1 | ⟨g, cap, cur, h1, h2, h3⟩
  · exact .inl h1
  · exact .inr ⟨g, cap, cur, h1, Nat.le_trans hb h2, h3⟩
/-- The label i is among some. -/
def lbit (labels : Int) (i : Nat) : Bool := bits BinOp.and IntKind.i64 (labels / 2 ^ i) 1 == 1
/-- One of the first k labels is among some, and an edge's. -/
def endsF (L : Nat → Nat → Nat) (f : Nat) (labels : Int) (k : Nat) : Nat → Bool := fun t => (List.range k).any fun i => lbit labels i && (L f t).testBit i
theorem endsF_succ (L : Nat → Nat → Nat) (f : Nat) (labels : Int) (k t : Nat) : endsF L f labels (k + 1) t = (endsF L f labels k t || (lbit labels k && (L f t).testBit k)) := by
  unfold endsF
  rw [List.range_succ, List.any_append]
  simp
theorem Graph.setAt {w : World} {b n r : Nat} {bk ck : Nat → Nat} {L : Nat → Nat → Nat} (h : Graph w b n r bk ck L) (f k : Nat) (hf : f < n) (hk : k < 4) : Is w (bk (4 * f + k)) n (ck (4 * f + k)) (fun t => (L f t).testBit k) := by
  have hs := h.sets (4 * f + k) (by omega)
  have e1 : (4 * f + k) / 4 = f := by omega
  have e2 : (4 * f + k) % 4 = k := by omega
  rw [e1, e2] at hs
  exact hs

set_option maxHeartbeats 4000000 in
theorem gather_is (b n r f : Nat) (bk ck : Nat → Nat) (L : Nat → Nat → Nat) (labels : Int) (w : World) (h : Graph w b n r bk ck L) (hf : f < n) (hT : Tab w) :
    Calls Tryd.prog 56 #[.slice none 0 0, .slice (some ⟨r, 4 * f, none⟩) 4 4, .int .i64 labels, .func (.func 57) #[] #[]] w fun e w' => (∃ v, e = .returned v ∧ Ints w.heap.size w' v (lst (endsF L f labels 4) n)) ∧ Below w.heap.size w w' := by
  obtain ⟨i0, hi, hz'⟩ := Option.map_eq_some_iff.1 Tryd.info3
  simp only [Prod.mk.injEq] at hz'
  obtain ⟨hz0, hz1, hz2⟩ := hz'
  have HI := hid hi
  have HZ0 := hid hz0
  have HZ1 := hid hz1
  have HZ2 := hid hz2
  clear hi hz0 hz1 hz2
  have c0 := h.at (4 * f) (by omega)
  have I0 := hid (h.sets (4 * f) (by omega))
  have hn3 := h.bound
  have hni : (n : Int) ≤ 300 := by omega
  have G := hid h
  have TB := hid hT
  clear h hT
  go_enter Tryd.func56, Tryd.ntmps56
  go_wp2_with (go_at_call 22; refine (bound_is _ _ _ _ _ I0.out).mono ?_; rintro e w' ⟨rfl, rfl⟩)
  go_at_call 27
  refine (new_is n (by omega) w).mono ?_
  rintro e w1 ⟨rfl, s1, b1, z1⟩
  have S1 := hid s1
  have B1 := hid b1
  clear s1 b1 z1
  go_wp2_with fail
  go_loopg [11, 12, 25] 4 (fun g _ _ i wr => ∃ k : Nat, k ≤ 4 ∧ 4 - k ≤ g ∧ i = .int .i64 k ∧ Aside (Is wr (w.heap.size + 1) n w.heap.size (endsF L f labels k)) ∧ Aside (Below w.heap.size w wr))
  case atStart => exact ⟨0, by omega, by omega, rfl, S1.out, B1.out⟩
  case round =>
    obtain ⟨k, hk, hg, rfl, SX, BX⟩ := hrel
    by_cases hlt : k < 4
    · have hlti : (k : Int) < 4 := by omega
      have GX := G.out.later BX.out
      have cr := GX.at (4 * f + k) (by omega)
      have IK := hid (GX.setAt f k hf hlt)
      have hlb : bk (4 * f + k) < w.heap.size ∧ ck (4 * f + k) < w.heap.size := (G.out.setAt f k hf hlt).blt
      have ES := hid (endsF_succ L f labels k)
      clear GX
      cases hb : lbit labels k
      · have q : (bits BinOp.and IntKind.i64 (labels / 2 ^ k) 1 == 1) = false := hb
        rw [hb] at ES
        clear hb
        go_wp2_with fail
        go_roundg (4 - (k + 1))
        · exact ⟨k + 1, by omega, by omega, by go_num, SX.out.congr (fun t => by rw [ES.out]; simp), BX.out⟩
        · omega
      · have q : (bits BinOp.and IntKind.i64 (labels / 2 ^ k) 1 == 1) = true := hb
        rw [hb] at ES
        clear hb
        go_wp2_with fail
        go_at_call 68
        refine (or_is _ n _ _ _ _ _ _ SX.out IK.out (by omega) (by omega)).mono ?_
        rintro e wa ⟨⟨t, rfl, ht⟩, sa, ba, za⟩
        have SN : Hid (Is wa (w.heap.size + 1) n w.heap.size (endsF L f labels (k + 1))) := sa.congr (fun t => by rw [ES.out]; simp)
        have BN : Hid (Below w.heap.size w wa) := BX.out.trans (ba.below (Nat.le_refl _) BX.out.size)
        clear sa ba za ht
        go_wp2_with fail
        go_roundg (4 - (k + 1))
        · exact ⟨k + 1, by omega, by omega, by go_num, SN.out, BN.out⟩
        · omega
    · have hlti : ¬ (k : Int) < 4 := by omega
      have ek : k = 4 := by omega
      subst ek
      have TX : Hid (Tab wr) := TB.out.later BX.out
      have TP := hid SX.out.top
      obtain ⟨F, hF⟩ : ∃ F, endsF L f labels 4 = F := ⟨_, rfl⟩
      rw [hF] at SX TP
      have HF := hid hF
      clear hF
      generalize wr = wo at *
      go_wp2_with fail
      go_at_call 69
      refine (next_is _ _ _ _ _ _ SX.out TX.out).mono ?_
      rintro e w' ⟨⟨r0, t0, rfl, hN⟩, rfl⟩
      have N0 := hid hN
      clear hN
      go_wp2_with fail
      go_loopg [0, 13, 14] n (fun g l i ok wr2 => ∃ (p : Nat) (q : Int) (t : Bool), p ≤ n ∧ n - p ≤ g ∧ i = .int .i64 q ∧ ok = .bool t ∧ Aside (NextIs F p q t) ∧ Aside (Ints wo.heap.size wr2 l (lst F p)) ∧ Aside (Below wo.heap.size wo wr2))
      case atStart => exact ⟨0, r0, t0, Nat.zero_le _, by omega, rfl, rfl, N0.out, World.ownsRow_nil _ _ _ _, Below.refl _ _⟩
      case round =>
        clear N0
        obtain ⟨p, q, t, hp, hg2, rfl, rfl, NX, OX, BY⟩ := hrel
        rcases NX.out with ⟨rfl, j, rfl, hpj, hfj, hgap⟩ | ⟨rfl, rfl, hgap⟩
        · have hjn : j < n := by
            rcases Nat.lt_or_ge j n with h1 | h1
            · exact h1
            · have := TP.out j h1
              rw [hfj] at this
              cases this
          have HL := hid (lst_step F p j hpj hfj hgap)
          have HLE := hid (lst_le F p)
          have hji : (j : Int) < 300 := by omega
          have hji0 : (0 : Int) ≤ j := by omega
          have hsz := hid BY.out.size
          have LB := hid (labelsIn_at b n r f bk ck L j wr ((G.out.later BX.out).later BY.out) hf)
          clear NX hgap hfj
          generalize labAt L f j = lab at *
          go_wp2_with fail
          refine LB.out.mono ?_
          rintro e w' ⟨rfl, rfl⟩
          go_wp2_with fail
          go_at_call 57
          refine (outC _ _ _).mono ?_
          rintro e w' ⟨rfl, rfl⟩
          go_wp2_with (at_builtin; refine wpList_append_lies _ rfl _ _ 28 rfl wo.heap.size 3 i0 _ 1 8 Tryd.underlying28 HI.out HZ0.out HZ1.out HZ2.out rfl (by decide) u0 (lst F p).length (intsV (lst F p)) rfl ?hown ⟨wr.heap.size, 0, none⟩ 1 1 [.int .i64 j] rfl rfl ?hnews ?hone (by decide) ?h63 ?hby ?hbase (wr.heap.size + 1) ?hH ?_)
          case hown => exact World.ownsRow.alloc OX.out _
          case hnews => exact World.news_of_block (heap_alloc_new wr (.cells #[.int .i64 j] 3))
          case hone => intro u hu; simp at hu; subst hu; rfl
          case h63 => have := HLE.out; unfold maxLen; omega
          case hby => have := HLE.out; omega
          case hbase => have := hsz.out; simp; omega
          case hH => simp
          intro g cap w4 hown4 hgrow hat hglt
          have B4 : Hid (Below wo.heap.size wo w4) := BY.out.trans (((below_box wr _).mono hsz.out).grown hgrow (by have := hsz.out; simp; omega) (fun x hx => (OX.out.lt x hx).1))
          have O4 : Hid (Ints wo.heap.size w4 (.slice (some ⟨g, 0, none⟩) ((lst F p).length + 1) cap) (lst F (j + 1))) := by
            unfold Ints intsV at *
            rw [HL.out, List.map_append, List.length_append]
            exact hown4
          clear hown4 hgrow hat hglt
          go_wp2_with fail
          go_at_call 69
          refine (next_is _ _ _ _ _ _ (SX.out.later B4.out) (TX.out.later B4.out)).mono ?_
          rintro e w' ⟨⟨r2, t2, rfl, hN⟩, rfl⟩
          have ej : ((j : Int) + 1).toNat = j + 1 := by omega
          rw [ej] at hN
          have N2 := hid hN
          clear hN
          go_wp2_with fail
          go_roundg (n - (j + 1))
          · exact ⟨j + 1, r2, t2, by omega, by omega, rfl, rfl, N2.out, O4.out, B4.out⟩
          · omega
        · have e := lst_gap F p n hp (fun k h1 _ => hgap k h1)
          have O5 : Hid (Ints w.heap.size wr u0 (lst F n)) := by
            rw [e]
            exact ints_mono OX.out BX.out.size
          clear e hgap NX
          go_wp2_with fail
          go_ret
          exact ⟨⟨_, rfl, by rw [HF.out]; exact O5.out⟩, BX.out.trans (BY.out.mono BX.out.size)⟩
theorem out_ok (b n r f : Nat) (bk ck : Nat → Nat) (L : Nat → Nat → Nat) (labels : Int) (w : World) (h : Graph w b n r bk ck L) (hf : f < n) (hT : Tab w) :
    Calls Tryd.prog 35 #[.pointer (some ⟨b, 0, none⟩), .int .i64 f, .int .i64 labels] w fun e w' => (∃ v, e = .returned v ∧ Ints w.heap.size w' v (lst (endsF L f labels 4) n)) ∧ Below w.heap.size w w' := by
  have H1 := hid (ghas_ok b n f w h.c0 h.c1 hf)
  have H2 := hid (row_is b n r f w h.c2 hf h.bound)
  have H3 := hid (gather_is b n r f bk ck L labels w h hf hT)
  clear h hT
  go_enter Tryd.func35, Tryd.ntmps35
  go_wp2_with fail
  refine H1.out.mono ?_
  rintro e w' ⟨rfl, rfl⟩
  go_wp2_with fail
  refine H2.out.mono ?_
  rintro e w' ⟨rfl, rfl⟩
  go_wp2_with fail
  refine H3.out.mono ?_
  rintro e w' ⟨⟨v, rfl, hI⟩, bl⟩
  have HI := hid hI
  have BL := hid bl
  clear hI bl
  go_wp2_with fail
  go_ret
  exact ⟨⟨_, rfl, HI.out⟩, BL.out⟩
theorem out_no (b n r : Nat) (f : Int) (bk ck : Nat → Nat) (L : Nat → Nat → Nat) (labels : Int) (w : World) (h : Graph w b n r bk ck L) (hf : f < 0 ∨ (n : Int) ≤ f) :
    Calls Tryd.prog 35 #[.pointer (some ⟨b, 0, none⟩), .int .i64 f, .int .i64 labels] w fun e w' => e = .returned (.slice none 0 0) ∧ w = w' := by
  have H1 := hid (ghas_no b n f w h.c0 h.c1 hf)
  clear h
  go_enter Tryd.func35, Tryd.ntmps35
  go_wp2_with fail
  refine H1.out.mono ?_
  rintro e w' ⟨rfl, rfl⟩
  go_wp2_with fail
  go_ret
  exact ⟨rfl, rfl⟩
end Go.Proofs.YtjgmkigfpjmlaabDoor
