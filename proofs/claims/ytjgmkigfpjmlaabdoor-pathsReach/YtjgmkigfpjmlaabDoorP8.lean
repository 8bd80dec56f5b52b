/-
  Shortest: the walk.
-/
import Derived.Test.YtjgmkigfpjmlaabDoorP7
namespace Go.Proofs.YtjgmkigfpjmlaabDoor
set_option linter.unusedVariables false
set_option linter.unusedSimpArgs false
open Go.RowKit

set_option maxHeartbeats 8000000 in
set_option maxRecDepth 100000 in
theorem shortest_is (b n r s : Nat) (bk ck : Nat → Nat) (L : Nat → Nat → Nat) (labels to' : Int) (w : World) (h : Graph w b n r bk ck L) (hs : s < n) (hT : Tab w) :
    Calls Tryd.prog 16 #[.pointer (some ⟨b, 0, none⟩), .int .i64 labels, .int .i64 s, .int .i64 to'] w fun e w' => (∃ v, e = .returned v ∧ IsShort (edge L labels) n s to' w.heap.size w' v) ∧ Below w.heap.size w w' := by
  have FO := hid (follow_is b n r s bk ck L labels to' w h hs hT)
  have hn3 := h.bound
  have hni : (n : Int) ≤ 300 := by omega
  clear h hT
  go_enter Tryd.func16, Tryd.ntmps16
  go_wp2_with fail
  go_at_call 46
  refine FO.out.mono ?_
  rintro e w1 ⟨⟨sb, nb, cd, bf, rfl, t1, u, cu, t, Q, bfs, fin⟩, b1⟩
  have BFS := hid bfs
  have FIN := hid fin
  have B1 := hid b1
  obtain ⟨cb, s1⟩ := t1.set
  have B2 : Hid (Below w.heap.size w (w1.alloc (.cells #[.pointer (some ⟨sb, 0, none⟩), .slice (some ⟨nb, 0, none⟩) n n] 85))) := b1.alloc b1.size _
  have T2 : Hid (Trail (w1.alloc (.cells #[.pointer (some ⟨sb, 0, none⟩), .slice (some ⟨nb, 0, none⟩) n n] 85)) n sb nb cd bf) := t1.later (below_box _ _)
  have S2 : Hid (Is (w1.alloc (.cells #[.pointer (some ⟨sb, 0, none⟩), .slice (some ⟨nb, 0, none⟩) n n] 85)) sb n cb (fun v => decide (cd v ≠ 0))) := s1.later (below_box _ _)
  clear bfs fin b1 t1 s1 FO
  by_cases hto : to' < 0 ∨ (n : Int) ≤ to'
  · have NW := hid (noWay_off (E := edge L labels) (s := s) hto)
    have HAS := hid (has_off sb n cb _ to' _ S2.out hto)
    clear hto
    go_wp2_with fail
    go_at_call 24
    refine HAS.out.mono ?_
    rintro e w' ⟨rfl, rfl⟩
    go_wp2_with fail
    go_ret
    exact ⟨⟨_, rfl, .inr ⟨rfl, NW.out⟩⟩, B2.out⟩
  · obtain ⟨T, rfl⟩ : ∃ T : Nat, to' = T := ⟨to'.toNat, by omega⟩
    have hTn : T < n := by omega
    have hTi : (T : Int) < n := by omega
    have HAS := hid (has_is sb n cb _ T _ S2.out hTn)
    clear hto
    by_cases hcd : cd T = 0
    · have hdec : decide (cd T ≠ 0) = false := by simp [hcd]
      rw [hdec] at HAS
      have NW : Hid (∀ T' : Nat, (T : Int) = T' → ∀ r, r ≠ [] → ¬ Wl (edge L labels) n s r T') := by
        intro T' e r hr hw
        obtain rfl : T = T' := by omega
        rcases FIN.out with ⟨rfl, rfl⟩ | ⟨T', e', _, k⟩
        · exact ((BFS.out.whole r T hw).2 hr) hcd
        · obtain rfl : T = T' := by omega
          exact k hcd
      go_wp2_with fail
      go_at_call 24
      refine HAS.out.mono ?_
      rintro e w' ⟨rfl, rfl⟩
      go_wp2_with fail
      go_ret
      exact ⟨⟨_, rfl, .inr ⟨rfl, NW.out⟩⟩, B2.out⟩
    · have hdec : decide (cd T ≠ 0) = true := by simp [hcd]
      rw [hdec] at HAS
      have HCD := hid hcd
      obtain ⟨cur, n1, n2, n3⟩ := T2.out.bef
      have HB := hid (heap_alloc_new w1 (.cells #[.pointer (some ⟨sb, 0, none⟩), .slice (some ⟨nb, 0, none⟩) n n] 85))
      have NLT : Hid (nb < w1.heap.size) := by
        have h1 := blt n1
        rw [World.size_alloc] at h1
        rcases Nat.lt_or_eq_of_le (Nat.le_of_lt_succ h1) with h2 | h2
        · exact h2
        · exfalso
          exact tags n1 HB.out (by decide) h2
      have LB : Hid (w.heap.size ≤ w1.heap.size) := B1.out.size
      have WS : Hid ((w1.alloc (.cells #[.pointer (some ⟨sb, 0, none⟩), .slice (some ⟨nb, 0, none⟩) n n] 85)).heap.size = w1.heap.size + 1) := World.size_alloc _ _
      clear hdec hcd S2 B1
      go_wp2_with fail
      generalize w1.alloc (.cells #[.pointer (some ⟨sb, 0, none⟩), .slice (some ⟨nb, 0, none⟩) n n] 85) = W at *
      generalize w1.heap.size = tb at *
      have k0 : W.cell? ⟨tb, 0, none⟩ = some (.pointer (some ⟨sb, 0, none⟩)) := Lib.cell_of_heap HB.out 0
      have k1 : W.cell? ⟨tb, 1, none⟩ = some (.slice (some ⟨nb, 0, none⟩) n n) := Lib.cell_of_heap HB.out 1
      have kT : W.cell? ⟨nb, T, none⟩ = some (.int .i64 (bf T)) := (Lib.cell_of_heap n1 T).trans (n3 T hTn)
      obtain ⟨cb0, bk0⟩ := Bk.start BFS.out HCD.out
      have BK0 := hid bk0
      have N1 := hid n1
      have N3 := hid n3
      clear bk0 n1 n3
      go_at_call 24
      refine HAS.out.mono ?_
      rintro e w' ⟨rfl, rfl⟩
      go_wp2_with fail
      have P0 : Hid (Ints W.heap.size (W.alloc (.cells #[.int .i64 T, .int .i64 (bf T)] 3)) (.slice (some ⟨W.heap.size, 0, none⟩) 2 2) [T, bf T]) := ints_made W.heap.size W [T, bf T] (Nat.le_refl _) (by simp [maxLen])
      go_loopg [10, 11] cb0 (fun g node path wr => ∃ (v cb : Nat) (rest : List Nat) (gb cap : Nat), node = .int .i64 (v : Nat) ∧ cb ≤ g ∧ path = .slice (some ⟨gb, 0, none⟩) (rest.length + 1) cap ∧ Aside (Bk (edge L labels) n s T cd v cb rest) ∧ Aside (Ints W.heap.size wr (.slice (some ⟨gb, 0, none⟩) (rest.length + 1) cap) (v :: rest).reverse) ∧ Aside (Gro (fun k => W.heap.size ≤ k) W wr))
      case atStart => exact ⟨bf T, cb0, [T], W.heap.size, 2, rfl, Nat.le_refl _, rfl, BK0.out, P0.out, Gro.of_below (below_box W _)⟩
      case round =>
        clear BK0 P0 k0 k1 kT
        obtain ⟨v, cb, rest, gb, cap, rfl, hg, rfl, BK, PX, GX⟩ := hrel
        have hvn := BK.out.hv
        have hlen := BK.out.short
        have hvi : (v : Int) < n := by omega
        have hleni : (rest.length : Int) ≤ 300 := by omega
        have x1 : wr.heap[tb]? = some (.cells #[.pointer (some ⟨sb, 0, none⟩), .slice (some ⟨nb, 0, none⟩) n n] 85) := GX.out.at HB.out (by have := WS.out; omega)
        have x2 : wr.heap[nb]? = some (.cells cur 3) := GX.out.at N1.out (by have := WS.out; have := NLT.out; omega)
        have k1 : wr.cell? ⟨tb, 1, none⟩ = some (.slice (some ⟨nb, 0, none⟩) n n) := Lib.cell_of_heap x1 1
        have kv : wr.cell? ⟨nb, v, none⟩ = some (.int .i64 (bf v)) := (Lib.cell_of_heap x2 v).trans (N3.out v hvn)
        have SZ : Hid (W.heap.size ≤ wr.heap.size) := GX.out.size
        clear x1 x2
        by_cases hvs : v = s
        · subst hvs
          have hb : ((v : Int) != (v : Int)) = false := by simp
          have hb2 : ((v : Int) == (v : Int)) = true := by simp
          obtain ⟨ly, lg, lc⟩ := Ints.lay PX.out (by simp)
          have LY := hid ly
          have LG := hid lg
          have LC := hid lc
          have BST := hid (BK.out.best BFS.out HCD.out)
          clear ly lg lc PX
          go_wp2_with fail
          go_at_call 47
          have hrev := reverse_is gb cap ((v :: rest).reverse.map fun x : Nat => (x : Int)) wr (by rw [List.length_map]; exact LY.out) (by simp; omega)
          rw [List.length_map, List.length_reverse, List.length_cons] at hrev
          refine hrev.mono ?_
          rintro e w2 ⟨rfl, l2, b2⟩
          have I2 : Hid (Ints w.heap.size w2 (.slice (some ⟨gb, 0, none⟩) (rest.length + 1) cap) (v :: rest)) := by
            refine Lay1.ints (l := v :: rest) ?_ (by have := LG.out; have := WS.out; have := LB.out; omega) LC.out
            rw [← List.map_reverse, List.reverse_reverse] at l2
            exact l2
          have B3 : Hid (Below w.heap.size w w2) := (B2.out.trans (GX.out.below w.heap.size (fun k hk => by have := WS.out; have := LB.out; omega) B2.out.size)).trans (b2.below (by have := LG.out; have := WS.out; have := LB.out; omega) (Nat.le_trans B2.out.size SZ.out))
          clear l2 b2 hrev
          go_wp2_with fail
          go_ret
          exact ⟨⟨_, rfl, .inl ⟨T, rest, rfl, hTn, BST.out, hlen, I2.out⟩⟩, B3.out⟩
        · have hb : ((v : Int) != (s : Int)) = true := by simp; omega
          have hb2 : ((v : Int) == (s : Int)) = false := by simp; omega
          obtain ⟨cb', hlt, bk'⟩ := BK.out.step BFS.out hvs
          have BK' := hid bk'
          have PA : Hid (Ints W.heap.size (wr.alloc (.cells #[.int .i64 (bf v)] 3)) (.slice (some ⟨gb, 0, none⟩) (rest.length + 1) cap) (v :: rest).reverse) := PX.out.later (below_box _ _)
          have CA : Hid ((wr.alloc (.cells #[.int .i64 (bf v)] 3)).cell? ⟨wr.heap.size, 0, none⟩ = some (.int .i64 (bf v))) := new_cells wr #[.int .i64 (bf v)] 3 0
          have GA : Hid (Gro (fun k => W.heap.size ≤ k) W (wr.alloc (.cells #[.int .i64 (bf v)] 3))) := GX.out.trans (Gro.of_below (below_box _ _))
          clear bk' BK PX GX
          go_wp2_with (at_builtin; refine wpList_append_ints _ rfl _ _ rfl W.heap.size (by have := SZ.out; simp; omega) _ (v :: rest).reverse rfl PA.out wr.heap.size (bf v) 1 rfl CA.out (by simp; omega) ?_; intro g2 cap2 w2 q1 q2; have Q1 := hid q1; have Q2 := hid (GA.out.trans q2); clear q1 q2)
          go_roundg cb'
          · exact ⟨bf v, cb', v :: rest, g2, cap2, rfl, Nat.le_refl _, by simp, BK'.out, by show Ints _ _ _ _; have := Q1.out; simpa using this, Q2.out⟩
          · omega
end Go.Proofs.YtjgmkigfpjmlaabDoor
