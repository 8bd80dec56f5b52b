/-
  graph.New.
-/
import Derived.Test.YtgmneohngadpeaaGreatDoorG1
import Derived.Deep.RegionWith
namespace Go.Proofs.YtgmneohngadpeaaGreatDoor
set_option linter.unusedVariables false
set_option linter.unusedSimpArgs false
open Go.RowKit

theorem Tryz.info23 : (Tryz.prog.info? 89).map (fun i => (i.zero, i.size, i.bytes)) = some (some (.pointer none), 1, 8) := by kernel_rfl
theorem made_ptrs (m : Nat) : madeCells #[Value.pointer none] m = Array.replicate m (Value.pointer none) := by
  apply Array.ext
  · simp [madeCells]
  · intro i h1 h2
    have h0 : i % 1 = 0 := by omega
    simp [madeCells, h0]
/-- A graph that is made: its first k sets are. -/
structure Made (H n k : Nat) (w : World) : Prop where
  size : w.heap.size = H + 2 + 2 * k
  box : w.heap[H + 1]? = some (.cells #[.bool true, .int .i64 n, .slice (some ⟨H, 0, none⟩) (4 * n) (4 * n)] 88)
  row : ∃ cur : Array Value, w.heap[H]? = some (.cells cur 89) ∧ cur.size = 4 * n ∧ (∀ j, j < k → cur[j]? = some (.pointer (some ⟨H + 3 + 2 * j, 0, none⟩))) ∧ ∃ v, k < 4 * n → cur[k]? = some v
  sets : ∀ j, j < k → Is w (H + 3 + 2 * j) n (H + 2 + 2 * j) (fun _ => false)
theorem Made.graph {H n : Nat} {w : World} (h : Made H n (4 * n) w) (hn : n ≤ 300) : Graph w (H + 1) n H (fun k => H + 3 + 2 * k) (fun k => H + 2 + 2 * k) (fun _ _ => 0) := by
  obtain ⟨cur, h1, h2, h3, _⟩ := h.row
  exact ⟨h.box, ⟨cur, h1, h2, h3⟩, fun k hk => (h.sets k hk).congr (fun _ => by simp), fun k k' _ _ hne => by omega, fun _ _ => by decide, hn⟩
theorem Made.next {H n k : Nat} {w wa : World} (h : Made H n k w) (hk : k < 4 * n) (sa : Is wa (w.heap.size + 1) n w.heap.size (fun _ => false)) (ba : Below w.heap.size w wa) (za : wa.heap.size = w.heap.size + 2) :
    Made H n (k + 1) (wa.setCell ⟨H, k, none⟩ (.pointer (some ⟨w.heap.size + 1, 0, none⟩))) := by
  obtain ⟨cur, h1, h2, h3, h4⟩ := h.row
  have hs := h.size
  have hH : H < w.heap.size := by omega
  have hb : Beside H wa (wa.setCell ⟨H, k, none⟩ (.pointer (some ⟨w.heap.size + 1, 0, none⟩))) := (Beside.refl H wa).setCell (p := ⟨H, k, none⟩) rfl _
  have r1 : wa.heap[H]? = some (.cells cur 89) := (ba.block H hH).trans h1
  refine ⟨by simp [World.setCell]; omega, ?_, ⟨cur.setIfInBounds k (.pointer (some ⟨w.heap.size + 1, 0, none⟩)), Go.Joins.block_setCell r1 _, by simpa using h2, fun j hj => ?_, ?_⟩, fun j hj => ?_⟩
  · rw [hb.block (H + 1) (by omega) (by omega), ba.block (H + 1) (by omega)]
    exact h.box
  · rw [Array.getElem?_setIfInBounds]
    by_cases e : k = j
    · subst e
      rw [if_pos rfl, if_pos (by omega)]
      congr 4
      omega
    · rw [if_neg e]
      exact h3 j (by omega)
  · by_cases hk1 : k + 1 < 4 * n
    · refine ⟨cur[k + 1]'(by omega), fun _ => ?_⟩
      rw [Array.getElem?_setIfInBounds, if_neg (by omega), Array.getElem?_eq_getElem]
    · exact ⟨.bool true, fun h => absurd h hk1⟩
  · by_cases e : j = k
    · subst e
      have e1 : H + 3 + 2 * j = w.heap.size + 1 := by omega
      have e2 : H + 2 + 2 * j = w.heap.size := by omega
      rw [e1, e2]
      exact sa.beside hb (by omega) (by omega)
    · exact ((h.sets j (by omega)).later ba).beside hb (by omega) (by omega)

theorem Made.drew {H n k : Nat} {w : World} (h : Made H n k w) : Made H n k w.drew := ⟨h.size, h.box, h.row, fun j hj => (h.sets j hj).later ((Below.refl _ _).drew)⟩

set_option maxHeartbeats 4000000 in
theorem gnew_ok (n : Nat) (hn : n ≤ 300) (w : World) : Calls Tryz.prog 13 #[.int .i64 n] w fun e w' => e = .returned (.tuple #[.pointer (some ⟨w.heap.size + 1, 0, none⟩), .int .i64 0]) ∧ Graph w' (w.heap.size + 1) n w.heap.size (fun k => w.heap.size + 3 + 2 * k) (fun k => w.heap.size + 2 + 2 * k) (fun _ _ => 0) ∧ Below w.heap.size w w' := by
  have hmk := run_make_row' (P := Tryz.prog) 52 89 (.pointer none) 8 Tryz.underlying52 Tryz.info23 rfl .i64 .i64 (4 * n) (by omega) (by omega)
  have h0 : (0 : Int) ≤ n := by omega
  have h1 : (n : Int) ≤ 300 := by omega
  have e1 : ((4 * n : Nat) : Int) = 4 * (n : Int) := by omega
  rw [e1, made_ptrs] at hmk
  clear e1
  go_enter Tryz.func13, Tryz.ntmps13
  go_wp2_with fail
  have M0 : Hid (Made w.heap.size n 0 ((w.alloc (.cells (Array.replicate (4 * n) (Value.pointer none)) 89)).alloc (.cells #[.bool true, .int .i64 n, .slice (some ⟨w.heap.size, 0, none⟩) (4 * n) (4 * n)] 88))) := by
    refine ⟨by simp, ?_, ⟨Array.replicate (4 * n) (Value.pointer none), ?_, by simp, fun j hj => by omega, .pointer none, fun h => by rw [Array.getElem?_replicate, if_pos h]⟩, fun j hj => by omega⟩
    · have := heap_alloc_new (w.alloc (.cells (Array.replicate (4 * n) (Value.pointer none)) 89)) (.cells #[.bool true, .int .i64 n, .slice (some ⟨w.heap.size, 0, none⟩) (4 * n) (4 * n)] 88)
      simpa using this
    · rw [Lib.alloc_old _ _ w.heap.size (by simp)]
      exact heap_alloc_new w _
  have B0 : Hid (Below w.heap.size w ((w.alloc (.cells (Array.replicate (4 * n) (Value.pointer none)) 89)).alloc (.cells #[.bool true, .int .i64 n, .slice (some ⟨w.heap.size, 0, none⟩) (4 * n) (4 * n)] 88))) := (below_box w _).alloc (by simp) _
  clear hmk
  generalize (w.alloc (.cells (Array.replicate (4 * n) (Value.pointer none)) 89)).alloc (.cells #[.bool true, .int .i64 n, .slice (some ⟨w.heap.size, 0, none⟩) (4 * n) (4 * n)] 88) = W0 at *
  go_loopg [5, 23] (4 * n) (fun g _ i wr => ∃ k : Nat, k ≤ 4 * n ∧ 4 * n - k ≤ g ∧ i = .int .i64 k ∧ Aside (Made w.heap.size n k wr) ∧ Aside (Below w.heap.size w wr))
  case atStart => exact ⟨0, Nat.zero_le _, by omega, rfl, M0.out, B0.out⟩
  case round =>
    obtain ⟨k, hk, hg, rfl, MX, BX⟩ := hrel
    by_cases hlt : k < 4 * n
    · have hlti : (k : Int) < 4 * (n : Int) := by omega
      obtain ⟨cur, r1, r2, r3, v, r4⟩ := MX.out.row
      have rk := r4 hlt
      have cb : wr.cell? ⟨w.heap.size + 1, 2, none⟩ = some (.slice (some ⟨w.heap.size, 0, none⟩) (4 * n) (4 * n)) := Lib.cell_of_heap MX.out.box 2
      have ck : wr.cell? ⟨w.heap.size, k, none⟩ = some v := (Lib.cell_of_heap r1 k).trans rk
      have fk : wr.frozen? ⟨w.heap.size, k, none⟩ = false := Lib.frozen_of_heap r1 k
      have hsz := hid MX.out.size
      have hlt1 : w.heap.size + 1 < wr.heap.size := by have := hsz.out; omega
      clear r1 r2 r3 r4 rk
      go_wp2_with fail
      go_region_with (go_at_call 28; refine (new_is n (by omega) _).mono ?_; rintro e wa ⟨rfl, sa, ba, za⟩; have SA := hid sa; have BA := hid ba; have ZA := hid za; have cb2 : wa.cell? ⟨w.heap.size + 1, 2, none⟩ = some (.slice (some ⟨w.heap.size, 0, none⟩) (4 * n) (4 * n)) := (ba.cell (p := ⟨w.heap.size + 1, 2, none⟩) hlt1).trans cb; have ck2 : wa.cell? ⟨w.heap.size, k, none⟩ = some v := (ba.cell (p := ⟨w.heap.size, k, none⟩) (by show w.heap.size < wr.heap.size; omega)).trans ck; have fk2 : wa.frozen? ⟨w.heap.size, k, none⟩ = false := (ba.frozen (p := ⟨w.heap.size, k, none⟩) (by show w.heap.size < wr.heap.size; omega)).trans fk; clear sa ba za)
      all_goals (try go_wp2_with fail)
      all_goals
        have MN := hid (MX.out.drew.next hlt SA.out BA.out ZA.out)
        go_roundg (4 * n - (k + 1))
        · exact ⟨k + 1, by omega, by omega, by go_num, MN.out, (BX.out.drew.trans (BA.out.mono BX.out.size)).setCell (Nat.le_refl _) _⟩
        · omega
    · have hlti : ¬ (k : Int) < 4 * (n : Int) := by omega
      have ek : 4 * n = k := by omega
      have key : Graph wr (w.heap.size + 1) n w.heap.size (fun k => w.heap.size + 3 + 2 * k) (fun k => w.heap.size + 2 + 2 * k) (fun _ _ => 0) := Made.graph (by rw [ek]; exact MX.out) hn
      have KEY := hid key
      clear key ek
      go_wp2_with fail
      go_ret2
      exact ⟨rfl, KEY.out, BX.out⟩
theorem gnew_no (n : Int) (hn : n < 0 ∨ 300 < n) (w : World) : Calls Tryz.prog 13 #[.int .i64 n] w fun e w' => e = .returned (.tuple #[.pointer none, .int .i64 1]) ∧ w = w' := by
  rcases hn with h | h
  · go_enter Tryz.func13, Tryz.ntmps13
    go_wp2
    go_ret2
    exact ⟨rfl, rfl⟩
  · have h0 : ¬ n < 0 := by omega
    go_enter Tryz.func13, Tryz.ntmps13
    go_wp2
    go_ret2
    exact ⟨rfl, rfl⟩
end Go.Proofs.YtgmneohngadpeaaGreatDoor
