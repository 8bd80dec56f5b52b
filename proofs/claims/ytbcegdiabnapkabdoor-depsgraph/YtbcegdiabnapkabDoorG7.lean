/-
  Edges of a graph.
-/
import Derived.Test.YtbcegdiabnapkabDoorG6
namespace Go.Proofs.YtbcegdiabnapkabDoor
set_option linter.unusedVariables false
set_option linter.unusedSimpArgs false
open Go.RowKit

/-- The edges of the first k nodes. -/
def allE (L : Nat → Nat → Nat) (n k : Nat) : List (Nat × Nat × Nat) := (List.range k).flatMap fun f => rowE L f (endsF L f 15 4) n
theorem allE_succ (L : Nat → Nat → Nat) (n k : Nat) : allE L n (k + 1) = allE L n k ++ rowE L k (endsF L k 15 4) n := by
  unfold allE
  rw [List.range_succ, List.flatMap_append]
  simp
theorem allE_len (L : Nat → Nat → Nat) (n k : Nat) : (allE L n k).length ≤ k * n := by
  induction k with
  | zero => simp [allE]
  | succ k ih =>
    rw [allE_succ, List.length_append]
    have := rowE_len L k (endsF L k 15 4) n
    rw [Nat.succ_mul]
    omega
theorem Tab.pos {w : World} (h : Tab w) : 0 < w.heap.size := World.block_lt_of_cell? _ _ (h 0 (by decide))

set_option maxHeartbeats 8000000 in
theorem edges_is (b n r : Nat) (bk ck : Nat → Nat) (L : Nat → Nat → Nat) (w : World) (h : Graph w b n r bk ck L) (hT : Tab w) :
    Calls Tryd.prog 6 #[.pointer (some ⟨b, 0, none⟩)] w fun e w' => (∃ v, e = .returned v ∧ EdgesIn w.heap.size w' v (allE L n n)) ∧ Below w.heap.size w w' := by
  have N := hid (nodes_is b n w h.c0 h.c1)
  have G := hid h
  have TB := hid hT
  have hn3 := h.bound
  have hni : (n : Int) ≤ 300 := by omega
  have hpos := hT.pos
  clear h hT
  go_enter Tryd.func6, Tryd.ntmps6
  go_wp2_with (go_at_call 9; refine N.out.mono ?_; rintro e w' ⟨rfl, rfl⟩)
  go_loopg [3, 4, 7] n (fun g l _ i wr => ∃ k : Nat, k ≤ n ∧ n - k ≤ g ∧ i = .int .i64 k ∧ Aside (EdgesIn w.heap.size wr l (allE L n k)) ∧ Aside (Past w wr) ∧ Aside (Below w.heap.size w wr))
  case atStart => exact ⟨0, Nat.zero_le _, by omega, rfl, World.ownsRow_nil _ _ _ _, Past.refl _, Below.refl _ _⟩
  case round =>
    obtain ⟨k, hk, hg, rfl, EX, PX, BX⟩ := hrel
    by_cases hlt : k < n
    · have hlti : (k : Int) < n := by omega
      have W1 := below_box wr (.cells #[.int .i64 k] 3)
      have KB : Hid ((wr.alloc (.cells #[.int .i64 k] 3)).heap[wr.heap.size]? = some (.cells #[.int .i64 k] 3)) := heap_alloc_new wr _
      have G1 : Hid (Graph (wr.alloc (.cells #[.int .i64 k] 3)) b n r bk ck L) := (G.out.past PX.out).later W1
      have E1 : Hid (EdgesIn w.heap.size (wr.alloc (.cells #[.int .i64 k] 3)) u3 (allE L n k)) := EX.out.later W1
      have B1 : Hid (Below w.heap.size w (wr.alloc (.cells #[.int .i64 k] 3))) := BX.out.trans (W1.mono BX.out.size)
      have P1 : Hid (Past w (wr.alloc (.cells #[.int .i64 k] 3))) := PX.out.trans (Past.of_below W1)
      have hkb : (wr.alloc (.cells #[.int .i64 k] 3)).cell? ⟨wr.heap.size, 0, none⟩ = some (.int .i64 k) := Lib.cell_of_heap KB.out 0
      have HA := hid (allE_succ L n k)
      have HLEN : (allE L n k).length ≤ 1000000 := by
        have h1 := allE_len L n k
        have h2 : k * n ≤ 300 * 300 := Nat.mul_le_mul (by omega) hn3
        omega
      clear W1
      go_wp2_with fail
      have HR := hid (row_is b n r k _ G1.out.c2 hlt hn3)
      have HG := hid (gatherE_is b n r k bk ck L 15 wr.heap.size w.heap.size u3 (allE L n k) _ G1.out hlt (TB.out.later B1.out) KB.out E1.out B1.out.size hpos HLEN)
      clear KB E1
      refine HR.out.mono ?_
      rintro e w' ⟨rfl, rfl⟩
      go_wp2_with fail
      refine HG.out.mono ?_
      rintro e w3 ⟨⟨v, rfl, e3⟩, p3, b3⟩
      have E3 : Hid (EdgesIn w.heap.size w3 v (allE L n (k + 1))) := by rw [HA.out]; exact e3
      have P3 := hid (P1.out.trans p3)
      have B3 := hid (B1.out.trans b3)
      clear e3 p3 b3
      go_wp2_with fail
      go_roundg (n - (k + 1))
      · exact ⟨k + 1, by omega, by omega, by go_num, E3.out, P3.out, B3.out⟩
      · omega
    · have hlti : ¬ (k : Int) < n := by omega
      have ek : n = k := by omega
      subst ek
      go_wp2_with fail
      go_ret
      exact ⟨⟨_, rfl, EX.out⟩, BX.out⟩
end Go.Proofs.YtbcegdiabnapkabDoor
