/-
  Shortest: the walk.
  Shortest from no node; Distance.
  The document's distances: plain.
  The document's distances: the walk.
  The document's Distance and Shortest.
-/
import Derived.Test.YtdihbeffomibeaaGreatDoorY7
namespace Go.Proofs.YtdihbeffomibeaaGreatDoor
set_option linter.unusedVariables false
set_option linter.unusedSimpArgs false
open Go.RowKit

set_option maxHeartbeats 8000000 in
set_option maxRecDepth 100000 in
theorem shortest_is (b n r s : Nat) (bk ck : Nat → Nat) (L : Nat → Nat → Nat) (labels to' : Int) (w : World) (h : Graph w b n r bk ck L) (hs : s < n) (hT : Tab w) :
    Calls Tryz.prog 43 #[.pointer (some ⟨b, 0, none⟩), .int .i64 labels, .int .i64 s, .int .i64 to'] w fun e w' => (∃ v, e = .returned v ∧ IsShort (edge L labels) n s to' w.heap.size w' v) ∧ Below w.heap.size w w' := by
  have FO := hid (follow_is b n r s bk ck L labels to' w h hs hT)
  have hn3 := h.bound
  have hni : (n : Int) ≤ 300 := by omega
  clear h hT
  go_enter Tryz.func43, Tryz.ntmps43
  go_wp2_with fail
  go_at_call 63
  refine FO.out.mono ?_
  rintro e w1 ⟨⟨sb, nb, cd, bf, rfl, t1, u, cu, t, Q, bfs, fin⟩, b1⟩
  have BFS := hid bfs
  have FIN := hid fin
  have B1 := hid b1
  obtain ⟨cb, s1⟩ := t1.set
  have B2 : Hid (Below w.heap.size w (w1.alloc (.cells #[.pointer (some ⟨sb, 0, none⟩), .slice (some ⟨nb, 0, none⟩) n n] 102))) := b1.alloc b1.size _
  have T2 : Hid (Trail (w1.alloc (.cells #[.pointer (some ⟨sb, 0, none⟩), .slice (some ⟨nb, 0, none⟩) n n] 102)) n sb nb cd bf) := t1.later (below_box _ _)
  have S2 : Hid (Is (w1.alloc (.cells #[.pointer (some ⟨sb, 0, none⟩), .slice (some ⟨nb, 0, none⟩) n n] 102)) sb n cb (fun v => decide (cd v ≠ 0))) := s1.later (below_box _ _)
  clear bfs fin b1 t1 s1 FO
  by_cases hto : to' < 0 ∨ (n : Int) ≤ to'
  · have NW := hid (noWay_off (E := edge L labels) (s := s) hto)
    have HAS := hid (has_off sb n cb _ to' _ S2.out hto)
    clear hto
    go_wp2_with fail
    go_at_call 64
    refine HAS.out.mono ?_
    rintro e w' ⟨rfl, rfl⟩
    go_wp2_with fail
    go_ret
    exact ⟨⟨_, rfl, .inr ⟨rfl, NW.out⟩⟩, B2.out⟩
  · obtain ⟨T, rfl⟩ : ∃ T : Nat, to' = T := ⟨to'.toNat, by omega⟩
    have hTn : T < n := by omega
    have hTi : (T : Int) < n := by omega
    have HAS := hid (has_is sb n cb _ T _ S2.out hTn)
    clear hto
    by_cases hcd : cd T = 0
    · have hdec : decide (cd T ≠ 0) = false := by simp [hcd]
      rw [hdec] at HAS
      have NW : Hid (∀ T' : Nat, (T : Int) = T' → ∀ r, r ≠ [] → ¬ Wl (edge L labels) n s r T') := by
        intro T' e r hr hw
        obtain rfl : T = T' := by omega
        rcases FIN.out with ⟨rfl, rfl⟩ | ⟨T', e', _, k⟩
        · exact ((BFS.out.whole r T hw).2 hr) hcd
        · obtain rfl : T = T' := by omega
          exact k hcd
      go_wp2_with fail
      go_at_call 64
      refine HAS.out.mono ?_
      rintro e w' ⟨rfl, rfl⟩
      go_wp2_with fail
      go_ret
      exact ⟨⟨_, rfl, .inr ⟨rfl, NW.out⟩⟩, B2.out⟩
    · have hdec : decide (cd T ≠ 0) = true := by simp [hcd]
      rw [hdec] at HAS
      have HCD := hid hcd
      obtain ⟨cur, n1, n2, n3⟩ := T2.out.bef
      have HB := hid (heap_alloc_new w1 (.cells #[.pointer (some ⟨sb, 0, none⟩), .slice (some ⟨nb, 0, none⟩) n n] 102))
      have NLT : Hid (nb < w1.heap.size) := by
        have h1 := blt n1
        rw [World.size_alloc] at h1
        rcases Nat.lt_or_eq_of_le (Nat.le_of_lt_succ h1) with h2 | h2
        · exact h2
        · exfalso
          exact tags n1 HB.out (by decide) h2
      have LB : Hid (w.heap.size ≤ w1.heap.size) := B1.out.size
      have WS : Hid ((w1.alloc (.cells #[.pointer (some ⟨sb, 0, none⟩), .slice (some ⟨nb, 0, none⟩) n n] 102)).heap.size = w1.heap.size + 1) := World.size_alloc _ _
      clear hdec hcd S2 B1
      go_wp2_with fail
      generalize w1.alloc (.cells #[.pointer (some ⟨sb, 0, none⟩), .slice (some ⟨nb, 0, none⟩) n n] 102) = W at *
      generalize w1.heap.size = tb at *
      have k0 : W.cell? ⟨tb, 0, none⟩ = some (.pointer (some ⟨sb, 0, none⟩)) := Lib.cell_of_heap HB.out 0
      have k1 : W.cell? ⟨tb, 1, none⟩ = some (.slice (some ⟨nb, 0, none⟩) n n) := Lib.cell_of_heap HB.out 1
      have kT : W.cell? ⟨nb, T, none⟩ = some (.int .i64 (bf T)) := (Lib.cell_of_heap n1 T).trans (n3 T hTn)
      obtain ⟨cb0, bk0⟩ := Bk.start BFS.out HCD.out
      have BK0 := hid bk0
      have N1 := hid n1
      have N3 := hid n3
      clear bk0 n1 n3
      go_at_call 64
      refine HAS.out.mono ?_
      rintro e w' ⟨rfl, rfl⟩
      go_wp2_with fail
      have P0 : Hid (Ints W.heap.size (W.alloc (.cells #[.int .i64 T, .int .i64 (bf T)] 3)) (.slice (some ⟨W.heap.size, 0, none⟩) 2 2) [T, bf T]) := ints_made W.heap.size W [T, bf T] (Nat.le_refl _) (by simp [maxLen])
      go_loopg [10, 11] cb0 (fun g node path wr => ∃ (v cb : Nat) (rest : List Nat) (gb cap : Nat), node = .int .i64 (v : Nat) ∧ cb ≤ g ∧ path = .slice (some ⟨gb, 0, none⟩) (rest.length + 1) cap ∧ Aside (Bk (edge L labels) n s T cd v cb rest) ∧ Aside (Ints W.heap.size wr (.slice (some ⟨gb, 0, none⟩) (rest.length + 1) cap) (v :: rest).reverse) ∧ Aside (Gro (fun k => W.heap.size ≤ k) W wr))
      case atStart => exact ⟨bf T, cb0, [T], W.heap.size, 2, rfl, Nat.le_refl _, rfl, BK0.out, P0.out, Gro.of_below (below_box W _)⟩
      case round =>
        clear BK0 P0 k0 k1 kT
        obtain ⟨v, cb, rest, gb, cap, rfl, hg, rfl, BK, PX, GX⟩ := hrel
        have hvn := BK.out.hv
        have hlen := BK.out.short
        have hvi : (v : Int) < n := by omega
        have hleni : (rest.length : Int) ≤ 300 := by omega
        have x1 : wr.heap[tb]? = some (.cells #[.pointer (some ⟨sb, 0, none⟩), .slice (some ⟨nb, 0, none⟩) n n] 102) := GX.out.at HB.out (by have := WS.out; omega)
        have x2 : wr.heap[nb]? = some (.cells cur 3) := GX.out.at N1.out (by have := WS.out; have := NLT.out; omega)
        have k1 : wr.cell? ⟨tb, 1, none⟩ = some (.slice (some ⟨nb, 0, none⟩) n n) := Lib.cell_of_heap x1 1
        have kv : wr.cell? ⟨nb, v, none⟩ = some (.int .i64 (bf v)) := (Lib.cell_of_heap x2 v).trans (N3.out v hvn)
        have SZ : Hid (W.heap.size ≤ wr.heap.size) := GX.out.size
        clear x1 x2
        by_cases hvs : v = s
        · subst hvs
          have hb : ((v : Int) != (v : Int)) = false := by simp
          have hb2 : ((v : Int) == (v : Int)) = true := by simp
          obtain ⟨ly, lg, lc⟩ := Ints.lay PX.out (by simp)
          have LY := hid ly
          have LG := hid lg
          have LC := hid lc
          have BST := hid (BK.out.best BFS.out HCD.out)
          clear ly lg lc PX
          go_wp2_with fail
          go_at_call 65
          have hrev := reverse_is gb cap ((v :: rest).reverse.map fun x : Nat => (x : Int)) wr (by rw [List.length_map]; exact LY.out) (by simp; omega)
          rw [List.length_map, List.length_reverse, List.length_cons] at hrev
          refine hrev.mono ?_
          rintro e w2 ⟨rfl, l2, b2⟩
          have I2 : Hid (Ints w.heap.size w2 (.slice (some ⟨gb, 0, none⟩) (rest.length + 1) cap) (v :: rest)) := by
            refine Lay1.ints (l := v :: rest) ?_ (by have := LG.out; have := WS.out; have := LB.out; omega) LC.out
            rw [← List.map_reverse, List.reverse_reverse] at l2
            exact l2
          have B3 : Hid (Below w.heap.size w w2) := (B2.out.trans (GX.out.below w.heap.size (fun k hk => by have := WS.out; have := LB.out; omega) B2.out.size)).trans (b2.below (by have := LG.out; have := WS.out; have := LB.out; omega) (Nat.le_trans B2.out.size SZ.out))
          clear l2 b2 hrev
          go_wp2_with fail
          go_ret
          exact ⟨⟨_, rfl, .inl ⟨T, rest, rfl, hTn, BST.out, hlen, I2.out⟩⟩, B3.out⟩
        · have hb : ((v : Int) != (s : Int)) = true := by simp; omega
          have hb2 : ((v : Int) == (s : Int)) = false := by simp; omega
          obtain ⟨cb', hlt, bk'⟩ := BK.out.step BFS.out hvs
          have BK' := hid bk'
          have PA : Hid (Ints W.heap.size (wr.alloc (.cells #[.int .i64 (bf v)] 3)) (.slice (some ⟨gb, 0, none⟩) (rest.length + 1) cap) (v :: rest).reverse) := PX.out.later (below_box _ _)
          have CA : Hid ((wr.alloc (.cells #[.int .i64 (bf v)] 3)).cell? ⟨wr.heap.size, 0, none⟩ = some (.int .i64 (bf v))) := new_cells wr #[.int .i64 (bf v)] 3 0
          have GA : Hid (Gro (fun k => W.heap.size ≤ k) W (wr.alloc (.cells #[.int .i64 (bf v)] 3))) := GX.out.trans (Gro.of_below (below_box _ _))
          clear bk' BK PX GX
          go_wp2_with (at_builtin; refine wpList_append_ints _ rfl _ _ rfl W.heap.size (by have := SZ.out; simp; omega) _ (v :: rest).reverse rfl PA.out wr.heap.size (bf v) 1 rfl CA.out (by simp; omega) ?_; intro g2 cap2 w2 q1 q2; have Q1 := hid q1; have Q2 := hid (GA.out.trans q2); clear q1 q2)
          go_roundg cb'
          · exact ⟨bf v, cb', v :: rest, g2, cap2, rfl, Nat.le_refl _, by simp, BK'.out, by show Ints _ _ _ _; have := Q1.out; simpa using this, Q2.out⟩
          · omega
end Go.Proofs.YtdihbeffomibeaaGreatDoor
namespace Go.Proofs.YtdihbeffomibeaaGreatDoor
set_option linter.unusedVariables false
set_option linter.unusedSimpArgs false
open Go.RowKit

set_option maxHeartbeats 8000000 in
set_option maxRecDepth 100000 in
theorem shortest_off (b n r : Nat) (s : Int) (bk ck : Nat → Nat) (L : Nat → Nat → Nat) (labels to' : Int) (w : World) (h : Graph w b n r bk ck L) (hs : s < 0 ∨ (n : Int) ≤ s) (hT : Tab w) :
    Calls Tryz.prog 43 #[.pointer (some ⟨b, 0, none⟩), .int .i64 labels, .int .i64 s, .int .i64 to'] w fun e w' => e = .returned (.slice none 0 0) ∧ Below w.heap.size w w' := by
  have FO := hid (follow_off b n r s bk ck L labels to' w h hs hT)
  clear h hT
  go_enter Tryz.func43, Tryz.ntmps43
  go_wp2_with fail
  go_at_call 63
  refine FO.out.mono ?_
  rintro e w1 ⟨⟨sb, nb, bf, rfl, t1⟩, b1⟩
  obtain ⟨cb, s1⟩ := t1.set
  have B2 : Hid (Below w.heap.size w (w1.alloc (.cells #[.pointer (some ⟨sb, 0, none⟩), .slice (some ⟨nb, 0, none⟩) n n] 102))) := b1.alloc b1.size _
  have S2 : Hid (Is (w1.alloc (.cells #[.pointer (some ⟨sb, 0, none⟩), .slice (some ⟨nb, 0, none⟩) n n] 102)) sb n cb (fun v => decide ((0 : Nat) ≠ 0))) := s1.later (below_box _ _)
  clear b1 t1 s1 FO
  have HAS : Hid (Calls Tryz.prog 64 #[.pointer (some ⟨sb, 0, none⟩), .int .i64 to'] (w1.alloc (.cells #[.pointer (some ⟨sb, 0, none⟩), .slice (some ⟨nb, 0, none⟩) n n] 102)) fun e w' => e = .returned (.bool false) ∧ (w1.alloc (.cells #[.pointer (some ⟨sb, 0, none⟩), .slice (some ⟨nb, 0, none⟩) n n] 102)) = w') := by
    by_cases hto : to' < 0 ∨ (n : Int) ≤ to'
    · exact has_off sb n cb _ to' _ S2.out hto
    · obtain ⟨T, rfl⟩ : ∃ T : Nat, to' = T := ⟨to'.toNat, by omega⟩
      exact has_is sb n cb _ T _ S2.out (by omega)
  go_wp2_with fail
  go_at_call 64
  refine HAS.out.mono ?_
  rintro e w' ⟨rfl, rfl⟩
  go_wp2_with fail
  go_ret
  exact ⟨rfl, B2.out⟩

/-- What Distance answers. -/
def IsFar (E : Nat → Nat → Bool) (n : Nat) (s to' : Int) (d : Int) : Prop :=
  (∃ (S T D : Nat), s = S ∧ S < n ∧ to' = T ∧ T < n ∧ d = D ∧ Dst E n T S D) ∨ (d = -1 ∧ ∀ S T : Nat, s = S → S < n → to' = T → ∀ r, r ≠ [] → ¬ Wl E n S r T)
theorem IsFar.uniq {E : Nat → Nat → Bool} {n : Nat} {s to' d d' : Int} (h : IsFar E n s to' d) (h' : IsFar E n s to' d') : d = d' := by
  rcases h with ⟨S, T, D, rfl, h1, rfl, h2, rfl, h3⟩ | ⟨rfl, h1⟩
  · rcases h' with ⟨S', T', D', e1, k1, e2, k2, rfl, k3⟩ | ⟨rfl, k1⟩
    · obtain rfl : S = S' := by omega
      obtain rfl : T = T' := by omega
      rw [h3.uniq k3]
    · obtain ⟨r, hr, hw⟩ := h3.2.1
      exact absurd hw (k1 S T rfl h1 rfl r (by rintro rfl; have := h3.1; simp at hr; omega))
  · rcases h' with ⟨S', T', D', e1, k1, e2, k2, rfl, k3⟩ | ⟨rfl, k1⟩
    · obtain ⟨r, hr, hw⟩ := k3.2.1
      exact absurd hw (h1 S' T' e1 k1 e2 r (by rintro rfl; have := k3.1; simp at hr; omega))
    · rfl
end Go.Proofs.YtdihbeffomibeaaGreatDoor
namespace Go.Proofs.YtdihbeffomibeaaGreatDoor
set_option linter.unusedVariables false
set_option linter.unusedSimpArgs false
open Go.RowKit

/-- A distance as a number: -1 without. -/
def dI (dv : Nat → Nat) (v : Nat) : Int := if dv v = 0 then -1 else (dv v : Int)
theorem dI_neg (dv : Nat → Nat) (v : Nat) (h : dv v = 0) : dI dv v = -1 := if_pos h
theorem dI_pos (dv : Nat → Nat) (v : Nat) (h : dv v ≠ 0) : dI dv v = (dv v : Int) := if_neg h
/-- A node of the next layer. -/
def hitF (E : Nat → Nat → Bool) (dv : Nat → Nat) (Ly : List Nat) (v : Nat) : Bool := decide (dv v = 0) && Ly.any (E v)
def hk (E : Nat → Nat → Bool) (dv : Nat → Nat) (Ly : List Nat) (k j : Nat) : Bool := decide (dv k = 0) && (Ly.take j).any (E k)
theorem hk_zero (E : Nat → Nat → Bool) (dv : Nat → Nat) (Ly : List Nat) (k : Nat) : hk E dv Ly k 0 = false := by simp [hk]
theorem hk_all (E : Nat → Nat → Bool) (dv : Nat → Nat) (Ly : List Nat) (k j : Nat) (hj : ¬ j < Ly.length) : hk E dv Ly k j = hitF E dv Ly k := by
  unfold hk hitF
  rw [List.take_of_length_le (by omega)]
theorem hk_succ (E : Nat → Nat → Bool) (dv : Nat → Nat) (Ly : List Nat) (k j : Nat) (hj : j < Ly.length) : hk E dv Ly k (j + 1) = (hk E dv Ly k j || (decide (dv k = 0) && E k (Ly.getD j 0))) := by
  unfold hk
  rw [List.take_succ_eq_append_getElem hj, List.any_append]
  have e : Ly.getD j 0 = Ly[j] := by simp [List.getD, hj]
  rw [e]
  cases decide (dv k = 0) <;> simp
/-- The distances while node k is in hand. -/
def dq (E : Nat → Nat → Bool) (dv : Nat → Nat) (Ly : List Nat) (d k : Nat) (hb : Bool) : Nat → Nat := fun v => if v < k ∧ hitF E dv Ly v = true then d else if v = k ∧ hb = true then d else dv v
theorem dq_at (E : Nat → Nat → Bool) (dv : Nat → Nat) (Ly : List Nat) (d k : Nat) (hb : Bool) : dq E dv Ly d k hb k = if hb = true then d else dv k := by
  unfold dq
  rw [if_neg (by omega)]
  cases hb <;> simp
theorem dq_zero (E : Nat → Nat → Bool) (dv : Nat → Nat) (Ly : List Nat) (d : Nat) : dq E dv Ly d 0 false = dv := by
  funext v
  unfold dq
  simp
theorem dq_next (E : Nat → Nat → Bool) (dv : Nat → Nat) (Ly : List Nat) (d k : Nat) : dq E dv Ly d k (hitF E dv Ly k) = dq E dv Ly d (k + 1) false := by
  funext v
  unfold dq
  by_cases h1 : v < k
  · have h2 : v < k + 1 := by omega
    have h3 : ¬ v = k := by omega
    simp [h1, h2, h3]
  · by_cases h2 : v = k
    · subst h2
      cases hitF E dv Ly v <;> simp
    · have h3 : ¬ v < k + 1 := by omega
      simp [h1, h2, h3]
theorem dq_set (E : Nat → Nat → Bool) (dv : Nat → Nat) (Ly : List Nat) (d k : Nat) (hd : d ≠ 0) (v : Nat) : (if v = k then (d : Int) else dI (dq E dv Ly d k false) v) = dI (dq E dv Ly d k true) v := by
  by_cases h : v = k
  · subst h
    rw [if_pos rfl]
    unfold dI
    rw [dq_at, if_pos rfl, if_neg hd]
  · rw [if_neg h]
    unfold dI dq
    simp [h]
theorem lay_round {E : Nat → Nat → Bool} {n T d : Nat} {dv : Nat → Nat} {Ly : List Nat} (h : Lay E n T d dv Ly) (hT : T < n) : Lay E n T (d + 1) (dq E dv Ly d n false) (lst (hitF E dv Ly) n) := by
  refine h.round hT (fun v hv => ?_) (fun v => ?_)
  · have hiff : hitF E dv Ly v = true ↔ dv v = 0 ∧ ∃ m ∈ Ly, E v m = true := by unfold hitF; simp
    unfold dq
    by_cases hc : dv v = 0 ∧ ∃ m ∈ Ly, E v m = true
    · rw [if_pos ⟨hv, hiff.2 hc⟩, if_pos hc]
    · rw [if_neg (fun c => hc (hiff.1 c.2)), if_neg hc, if_neg (by simp)]
  · unfold lst hitF
    simp [List.mem_filter]
/-- What is left: how many nodes have no distance, and whether there is a layer. -/
def left2 (n : Nat) (dv : Nat → Nat) (Ly : List Nat) : Nat := Pop.cnt (fun v => decide (dv v = 0)) n + (if Ly = [] then 0 else 1)
theorem left_less (E : Nat → Nat → Bool) (n d : Nat) (dv : Nat → Nat) (Ly : List Nat) (hd : d ≠ 0) (hne : Ly ≠ []) : left2 n (dq E dv Ly d n false) (lst (hitF E dv Ly) n) + 1 ≤ left2 n dv Ly := by
  unfold left2
  rw [if_neg hne]
  have hle : ∀ k, k < n → decide (dq E dv Ly d n false k = 0) = true → decide (dv k = 0) = true := by
    intro k hk h
    simp only [decide_eq_true_eq] at h ⊢
    unfold dq at h
    by_cases h1 : k < n ∧ hitF E dv Ly k = true
    · rw [if_pos h1] at h; exact absurd h hd
    · rw [if_neg h1] at h; simpa using h
  by_cases h0 : lst (hitF E dv Ly) n = []
  · rw [if_pos h0]
    have := cnt_mono _ _ n hle
    omega
  · rw [if_neg h0]
    obtain ⟨m, hm⟩ := List.exists_mem_of_ne_nil _ h0
    unfold lst at hm
    simp only [List.mem_filter, List.mem_range] at hm
    have h1 : dv m = 0 := by have := hm.2; unfold hitF at this; simp at this; exact this.1
    have := cnt_more _ _ m n hm.1 hle (by simp; unfold dq; rw [if_pos hm]; exact hd) (by simp [h1])
    omega
theorem Lay.node {E : Nat → Nat → Bool} {n T d : Nat} {dv : Nat → Nat} {Ly : List Nat} (h : Lay E n T d dv Ly) (hT : T < n) (j : Nat) (hj : j < Ly.length) : Ly.getD j 0 < n := by
  have e : Ly.getD j 0 ∈ Ly := by simp [List.getD, hj]
  rcases (h.layer _).1 e with ⟨_, h1⟩ | ⟨_, h1, _⟩
  · rw [h1]; exact hT
  · exact h1
theorem Part.cell {P : Nat → Prop} {w : World} {v : Value} {l : List Int} (h : Part P w v l) (j : Nat) (hj : j < l.length) : ∃ g off cap, v = .slice (some ⟨g, off, none⟩) l.length cap ∧ w.cell? ⟨g, off + j, none⟩ = some (.int .i64 (l.getD j 0)) := by
  rcases h with ⟨_, rfl⟩ | ⟨g, off, cap, cur, h1, h2, h3, h4, h5, h6, h7⟩
  · simp at hj
  · exact ⟨g, off, cap, h1, (Lib.cell_of_heap h3 _).trans (h7 j hj)⟩
theorem Part.mono {P Q : Nat → Prop} {w : World} {v : Value} {l : List Int} (h : Part P w v l) (hn : ∀ k, k < w.heap.size → P k → Q k) : Part Q w v l := by
  rcases h with h | ⟨g, off, cap, cur, h1, h2, h3, h4⟩
  · exact .inl h
  · exact .inr ⟨g, off, cap, cur, h1, hn g (blt h3) h2, h3, h4⟩
theorem Part.later {P : Nat → Prop} {w w' : World} {v : Value} {l : List Int} (h : Part P w v l) (hb : Below w.heap.size w w') : Part P w' v l :=
  h.gro (Gro.of_below (P := fun _ => False) hb) (fun _ _ h => h)
theorem Lay1.gro {P : Nat → Prop} {w w' : World} {g N n : Nat} {f : Nat → Int} (h : Lay1 w g N n f) (hg : Gro P w w') (hn : ¬ P g) : Lay1 w' g N n f := by
  obtain ⟨cur, h1, h2⟩ := h
  exact ⟨cur, hg.at h1 hn, h2⟩
end Go.Proofs.YtdihbeffomibeaaGreatDoor
namespace Go.Proofs.YtdihbeffomibeaaGreatDoor
set_option linter.unusedVariables false
set_option linter.unusedSimpArgs false
open Go.RowKit

set_option maxHeartbeats 8000000 in
set_option maxRecDepth 100000 in
theorem distances_is (b n : Nat) (v : Value) (rw' : Nat → Nat) (L : Nat → Nat → Nat) (labels : Int) (T : Nat) (w : World) (h : RefG w b n v rw' L) (hT : T < n) :
    Calls Tryz.prog 48 #[.pointer (some ⟨b, 0, none⟩), .int .i64 labels, .int .i64 T] w fun e w' => (∃ ob dv, e = .returned (.slice (some ⟨ob, 0, none⟩) n n) ∧ w.heap.size ≤ ob ∧ Lay1 w' ob n n (dI dv) ∧ Dists (edge L labels) n T dv) ∧ Below w.heap.size w w' := by
  have hmk := run_make_row' (P := Tryz.prog) 40 3 (.int .i64 0) 8 Tryz.underlying40 Tryz.info3 rfl .i64 .i64 n (by have := h.bound; omega) (by have := h.bound; omega)
  rw [made_ints] at hmk
  have R := hid h
  have hn3 := h.bound
  have hni : (n : Int) ≤ 300 := by omega
  have hn0 : (0 : Int) ≤ n := by omega
  obtain ⟨ao, cap, hv, -⟩ := h.form
  have c0 := h.c0
  rw [hv] at c0
  have C0 := hid c0
  have CB : Hid (∀ w', Below w.heap.size w w' → w'.cell? ⟨b, 0, none⟩ = some (.slice ao n cap)) := fun w' hb => by
    rw [← hv]
    exact (h.later hb).c0
  clear h hv
  go_enter Tryz.func48, Tryz.ntmps48
  go_wp2_with fail
  clear hmk
  have B0 : Hid (Below w.heap.size w (w.alloc (.cells (Array.replicate n (.int .i64 0)) 3))) := below_box _ _
  have L0 : Hid (Lay1 (w.alloc (.cells (Array.replicate n (.int .i64 0)) 3)) w.heap.size n n (fun j => if j < 0 then -1 else 0)) := ⟨_, heap_alloc_new w _, ⟨by simp, Nat.le_refl _⟩, fun j hj => by simp [hj]⟩
  have SZ0 : Hid (w.heap.size ≤ w.heap.size) := Nat.le_refl w.heap.size
  go_loopg [8, 23] n (fun g _ i wr => ∃ k : Nat, k ≤ n ∧ n - k ≤ g ∧ i = .int .i64 k ∧ Aside (Lay1 wr w.heap.size n n (fun j => if j < k then -1 else 0)) ∧ Aside (Below w.heap.size w wr))
  case atStart => exact ⟨0, Nat.zero_le _, by omega, rfl, L0.out, B0.out⟩
  case round =>
    clear L0 B0 c0
    obtain ⟨k, hk, hg, rfl, LX, BX⟩ := hrel
    by_cases hlt : k < n
    · have hlti : (k : Int) < n := by omega
      obtain ⟨ck, fk⟩ := LX.out.cell k hlt
      have LN : Hid (Lay1 (wr.setCell ⟨w.heap.size, k, none⟩ (.int .i64 (-1))) w.heap.size n n (fun j => if j < k + 1 then -1 else 0)) := (LX.out.put k (-1) hlt).congr (fun j hj => by
        by_cases e : j = k
        · simp [e]
        · by_cases e2 : j < k
          · simp [e, e2, show j < k + 1 by omega]
          · simp [e, e2, show ¬ j < k + 1 by omega])
      have BN : Hid (Below w.heap.size w (wr.setCell ⟨w.heap.size, k, none⟩ (.int .i64 (-1)))) := BX.out.setCell (Nat.le_refl _) _
      clear LX BX
      go_wp2_with fail
      go_roundg (n - (k + 1))
      · exact ⟨k + 1, by omega, by omega, by go_num, LN.out, BN.out⟩
      · omega
    · have hlti : ¬ (k : Int) < n := by omega
      obtain rfl : n = k := by omega
      have L1 : Hid (Lay1 (wr.alloc (.cells #[.int .i64 T] 3)) w.heap.size n n (dI (fun _ => 0))) := (LX.out.congr (fun j hj => by simp [dI, hj])).later (below_box _ _)
      have B1 : Hid (Below w.heap.size w (wr.alloc (.cells #[.int .i64 T] 3))) := BX.out.alloc BX.out.size _
      have OBL : Hid (w.heap.size < wr.heap.size) := by obtain ⟨cur, h1, _⟩ := LX.out; exact blt h1
      have P1 : Hid (Part (fun g => g ≠ w.heap.size) (wr.alloc (.cells #[.int .i64 T] 3)) (.slice (some ⟨wr.heap.size, 0, none⟩) 1 1) [(T : Int)]) := .inr ⟨wr.heap.size, 0, 1, _, rfl, by have := OBL.out; omega, heap_alloc_new wr _, by simp, by simp [maxLen], by simp, fun j hj => by simp at hj; subst hj; simp⟩
      clear LX BX hg hk
      go_wp2_with fail
      go_loopg [9, 10] (n + 2) (fun g lv dval wr => ∃ (d : Nat) (dv : Nat → Nat) (Ly : List Nat), dval = .int .i64 (d : Nat) ∧ left2 n dv Ly ≤ g ∧ d + left2 n dv Ly ≤ n + 2 ∧ Ly.length ≤ n ∧ Aside (Lay (edge L labels) n T d dv Ly) ∧ Aside (Part (fun g => g ≠ w.heap.size) wr lv (Ly.map fun x : Nat => (x : Int))) ∧ Aside (Lay1 wr w.heap.size n n (dI dv)) ∧ Aside (Below w.heap.size w wr))
      case atStart =>
        have hc : Pop.cnt (fun v => decide ((0 : Nat) = 0)) n ≤ n := Pop.cnt_le _ _
        exact ⟨1, fun _ => 0, [T], rfl, by show Pop.cnt (fun v => decide ((0 : Nat) = 0)) n + 1 ≤ n + 2; omega, by show 1 + (Pop.cnt (fun v => decide ((0 : Nat) = 0)) n + 1) ≤ n + 2; omega, by show 1 ≤ n; omega, Lay.first _ n T, P1.out, L1.out, B1.out⟩
      case round =>
        clear P1 L1 B1
        obtain ⟨d, dv, Ly, rfl, hg, hd, hly, LAY, PX, LX, BX⟩ := hrel
        obtain ⟨lao, lcap, hlv⟩ := PX.out.form
        rw [List.length_map] at hlv
        subst hlv
        have hdp := LAY.out.pos
        by_cases hne : Ly = []
        · subst hne
          have DD := hid LAY.out.dists
          have hlen : ¬ ((0 : Nat) : Int) > 0 := by decide
          go_wp2_with fail
          go_ret
          first | exact ⟨⟨_, dv, rfl, Nat.le_refl _, LX.out, DD.out⟩, BX.out⟩ | exact ⟨⟨_, rfl, Nat.le_refl _, dv, LX.out, DD.out⟩, BX.out⟩
        · have hpos : 0 < Ly.length := List.length_pos_iff.2 hne
          have hposi : (0 : Int) < Ly.length := by omega
          have hlyi : (Ly.length : Int) ≤ 300 := by omega
          have hdi : (d : Int) ≤ 302 := by omega
          have HLESS := hid (left_less (edge L labels) n d dv Ly (by omega) hne)
          have cb := CB.out wr BX.out
          have OBL2 : Hid (w.heap.size < wr.heap.size) := by obtain ⟨cur, h1, _⟩ := LX.out; exact blt h1
          obtain ⟨W, hW⟩ : ∃ W, W = wr := ⟨_, rfl⟩
          have PW : Hid (Part (fun g => g ≠ w.heap.size ∧ g < W.heap.size) W (.slice lao Ly.length lcap) (Ly.map fun x : Nat => (x : Int))) := by rw [hW]; exact PX.out.mono (fun k h1 h2 => ⟨h2, h1⟩)
          have LW : Hid (Lay1 W w.heap.size n n (dI (dq (edge L labels) dv Ly d 0 false))) := by rw [hW, dq_zero]; exact LX.out
          have BW : Hid (Below w.heap.size w W) := by rw [hW]; exact BX.out
          have OBW : Hid (w.heap.size < W.heap.size) := by rw [hW]; exact OBL2.out
          clear PX LX BX OBL2
          subst hW
          go_wp2_with fail
          clear cb
          go_loopg [11, 42] n (fun g3 nv i wr => ∃ k : Nat, k ≤ n ∧ n - k ≤ g3 ∧ i = .int .i64 k ∧ Aside (Part (fun g => W.heap.size ≤ g) wr nv ((lst (hitF (edge L labels) dv Ly) k).map fun x : Nat => (x : Int))) ∧ Aside (Lay1 wr w.heap.size n n (dI (dq (edge L labels) dv Ly d k false))) ∧ Aside (Gro (fun x => x = w.heap.size ∨ W.heap.size ≤ x) W wr))
          case atStart => exact ⟨0, Nat.zero_le _, by omega, rfl, .inl ⟨rfl, rfl⟩, LW.out, Gro.refl _ _⟩
          case round =>
            clear LW
            obtain ⟨k, hk', hg3, rfl, NX, LX, GX⟩ := hrel
            obtain ⟨nao, nl, ncap, rfl⟩ : ∃ nao nl ncap, u11 = .slice nao nl ncap := by obtain ⟨x, y, e⟩ := NX.out.form; exact ⟨x, _, y, e⟩
            by_cases hkn : k < n
            · have hkni : (k : Int) < n := by omega
              go_wp2_with fail
              go_loopg [11, 47] Ly.length (fun g4 nv i wr => ∃ j : Nat, j ≤ Ly.length ∧ Ly.length - j ≤ g4 ∧ i = .int .i64 j ∧ Aside (Part (fun g => W.heap.size ≤ g) wr nv ((lst (hitF (edge L labels) dv Ly) k ++ (if hk (edge L labels) dv Ly k j = true then [k] else [])).map fun x : Nat => (x : Int))) ∧ Aside (Lay1 wr w.heap.size n n (dI (dq (edge L labels) dv Ly d k (hk (edge L labels) dv Ly k j)))) ∧ Aside (Gro (fun x => x = w.heap.size ∨ W.heap.size ≤ x) W wr))
              case atStart => exact ⟨0, Nat.zero_le _, by omega, rfl, by show Part _ _ _ _; rw [hk_zero]; simp; exact NX.out, by show Lay1 _ _ _ _ _; rw [hk_zero]; exact LX.out, GX.out⟩
              case round =>
                clear NX LX GX
                obtain ⟨j, hj, hg4, rfl, NX, LX, GX⟩ := hrel
                obtain ⟨nao, nl, ncap, rfl⟩ : ∃ nao nl ncap, u11 = .slice nao nl ncap := by obtain ⟨x, y, e⟩ := NX.out.form; exact ⟨x, _, y, e⟩
                by_cases hjl : j < Ly.length
                · have hjli : (j : Int) < Ly.length := by omega
                  have HS := hid (hk_succ (edge L labels) dv Ly k j hjl)
                  obtain ⟨pg, poff, pcap, pv, pc⟩ := (PW.out.gro GX.out (fun x h1 h2 => by rcases h2 with h2 | h2; exact h1.1 h2; have := h1.2; omega)).cell j (by rw [List.length_map]; exact hjl)
                  rw [List.length_map] at pv
                  injection pv with pv1 pv2 pv3
                  subst pv1
                  clear pv2 pv3
                  have hm := LAY.out.node hT j hjl
                  have pe : (Ly.map fun x : Nat => (x : Int)).getD j 0 = ((Ly.getD j 0 : Nat) : Int) := by simp [List.getD, hjl]
                  rw [pe] at pc
                  generalize Ly.getD j 0 = m at *
                  obtain ⟨ck, fk⟩ := LX.out.cell k hkn
                  have HLE := hid (lst_le (hitF (edge L labels) dv Ly) k)
                  have BQ : Hid (Below w.heap.size w wr) := BW.out.trans (GX.out.below w.heap.size (fun x hx => by have := OBW.out; rcases hx with hx | hx <;> omega) BW.out.size)
                  clear pe
                  cases hkj : hk (edge L labels) dv Ly k j with
                  | true =>
                    have HN : Hid (hk (edge L labels) dv Ly k (j + 1) = true) := by rw [HS.out, hkj]; rfl
                    have ev : dI (dq (edge L labels) dv Ly d k true) k = (d : Int) := by unfold dI; rw [dq_at, if_pos rfl, if_neg (by omega)]
                    rw [hkj] at ck NX LX
                    rw [ev] at ck
                    have hnn : ¬ ((d : Int) < 0) := by omega
                    go_wp2_with fail
                    go_roundg (Ly.length - (j + 1))
                    · exact ⟨j + 1, by omega, by omega, by go_num, by show Part _ _ _ _; rw [HN.out]; exact NX.out, by show Lay1 _ _ _ _ _; rw [HN.out]; exact LX.out, GX.out⟩
                    · omega
                  | false =>
                    rw [hkj] at ck NX LX HS
                    simp only [Bool.false_or] at HS
                    by_cases hdk : dv k = 0
                    · have ev : dI (dq (edge L labels) dv Ly d k false) k = -1 := by unfold dI; rw [dq_at]; simp [hdk]
                      rw [ev] at ck
                      have RL := hid (rlabels_ok b n v rw' L k m wr (R.out.later BQ.out) hkn hm)
                      have hmi : (m : Int) < n := by omega
                      have hen := ends_and L k m labels (R.out.small k m)
                      have HS2 : Hid (hk (edge L labels) dv Ly k (j + 1) = endsF L k labels 4 m) := by rw [HS.out]; simp [hdk]; rfl
                      clear HS ev
                      obtain ⟨y, hy⟩ : ∃ y, L k m = y := ⟨_, rfl⟩
                      rw [hy] at RL hen
                      clear hy
                      cases hE : endsF L k labels 4 m with
                      | false =>
                        rw [hE] at hen HS2
                        simp only [Bool.not_false] at hen
                        clear hE
                        go_wp2_with (go_at_call 29; refine RL.out.mono ?_; rintro e w' ⟨rfl, rfl⟩)
                        go_roundg (Ly.length - (j + 1))
                        · exact ⟨j + 1, by omega, by omega, by go_num, by show Part _ _ _ _; rw [HS2.out]; exact NX.out, by show Lay1 _ _ _ _ _; rw [HS2.out]; exact LX.out, GX.out⟩
                        · omega
                      | true =>
                        rw [hE] at hen HS2
                        simp only [Bool.not_true] at hen
                        clear hE
                        have LN : Hid (Lay1 (wr.setCell ⟨w.heap.size, k, none⟩ (.int .i64 d)) w.heap.size n n (dI (dq (edge L labels) dv Ly d k true))) := (LX.out.put k d hkn).congr (fun x hx => dq_set (edge L labels) dv Ly d k (by omega) x)
                        have LA : Hid (Lay1 ((wr.setCell ⟨w.heap.size, k, none⟩ (.int .i64 d)).alloc (.cells #[.int .i64 k] 3)) w.heap.size n n (dI (dq (edge L labels) dv Ly d k true))) := LN.out.later (below_box _ _)
                        have NA : Hid (Part (fun g => W.heap.size ≤ g) ((wr.setCell ⟨w.heap.size, k, none⟩ (.int .i64 d)).alloc (.cells #[.int .i64 k] 3)) _ _) := (NX.out.gro (gro_set wr ⟨w.heap.size, k, none⟩ (.int .i64 d)) (fun x h1 h2 => by have := OBW.out; have e : x = w.heap.size := h2; omega)).later (below_box _ _)
                        have GA : Hid (Gro (fun x => x = w.heap.size ∨ W.heap.size ≤ x) W ((wr.setCell ⟨w.heap.size, k, none⟩ (.int .i64 d)).alloc (.cells #[.int .i64 k] 3))) := (GX.out.trans (show Gro (fun x => x = w.heap.size ∨ W.heap.size ≤ x) wr (wr.setCell ⟨w.heap.size, k, none⟩ (.int .i64 d)) from ⟨rfl, rfl, rfl, by simp, fun x _ hn => Below.heap_setCell wr ⟨w.heap.size, k, none⟩ (.int .i64 d) x (fun e => hn (.inl e))⟩)).trans (Gro.of_below (below_box _ _))
                        have CA : Hid (((wr.setCell ⟨w.heap.size, k, none⟩ (.int .i64 d)).alloc (.cells #[.int .i64 k] 3)).cell? ⟨wr.heap.size, 0, none⟩ = some (.int .i64 k)) := by
                          have := new_cells (wr.setCell ⟨w.heap.size, k, none⟩ (.int .i64 d)) #[.int .i64 k] 3 0
                          exact hid (by simpa using this)
                        have HP : Hid (∀ g, ((wr.setCell ⟨w.heap.size, k, none⟩ (.int .i64 d)).alloc (.cells #[.int .i64 k] 3)).heap.size ≤ g → W.heap.size ≤ g) := fun g hg => Nat.le_trans GA.out.size hg
                        clear NX LX GX LN
                        go_wp2_with (first | (go_at_call 29; refine RL.out.mono ?_; rintro e w' ⟨rfl, rfl⟩) | (at_builtin; refine wpList_append_part _ rfl _ _ rfl (fun g => W.heap.size ≤ g) HP.out _ _ rfl NA.out wr.heap.size k 1 rfl CA.out (by have := HLE.out; simp; omega) ?_; intro v' w4 q1 q2; obtain ⟨ao', nl', cp', rfl⟩ : ∃ x y z, v' = .slice x y z := (by obtain ⟨x, y, e⟩ := q1.form; exact ⟨x, _, y, e⟩); have Q1 := hid q1; have Q2 := hid (GA.out.trans ⟨q2.os, q2.tape, q2.output, q2.size, fun x hx hn => q2.block x hx (fun h => hn (.inr h))⟩); have Q3 := hid (LA.out.gro q2 (by have := OBW.out; omega)); clear q1 q2))
                        go_roundg (Ly.length - (j + 1))
                        · exact ⟨j + 1, by omega, by omega, by go_num, by show Part _ _ _ _; rw [HS2.out]; have := Q1.out; simpa using this, by show Lay1 _ _ _ _ _; rw [HS2.out]; exact Q3.out, Q2.out⟩
                        · omega
                    · have ev : dI (dq (edge L labels) dv Ly d k false) k = (dv k : Int) := by unfold dI; rw [dq_at]; simp [hdk]
                      rw [ev] at ck
                      have HN : Hid (hk (edge L labels) dv Ly k (j + 1) = false) := hid (by rw [HS.out]; simp [hdk])
                      have hnn : ¬ ((dv k : Int) < 0) := by omega
                      clear HS ev
                      go_wp2_with fail
                      go_roundg (Ly.length - (j + 1))
                      · exact ⟨j + 1, by omega, by omega, by go_num, by show Part _ _ _ _; rw [HN.out]; exact NX.out, by show Lay1 _ _ _ _ _; rw [HN.out]; exact LX.out, GX.out⟩
                      · omega
                · have hjli : ¬ (j : Int) < Ly.length := by omega
                  have ha := hk_all (edge L labels) dv Ly k j hjl
                  rw [ha] at NX LX
                  rw [dq_next] at LX
                  have ho := lst_one (hitF (edge L labels) dv Ly) k
                  have N2 : Hid (Part (fun g => W.heap.size ≤ g) wr (.slice nao nl ncap) ((lst (hitF (edge L labels) dv Ly) (k + 1)).map fun x : Nat => (x : Int))) := by
                    have h2 : lst (hitF (edge L labels) dv Ly) (k + 1) = lst (hitF (edge L labels) dv Ly) k ++ (if hitF (edge L labels) dv Ly k = true then [k] else []) := by
                      rw [ho]
                      cases hitF (edge L labels) dv Ly k <;> simp
                    rw [h2]
                    exact NX.out
                  clear NX ho
                  go_wp2_with fail
                  go_roundg (n - (k + 1))
                  · exact ⟨k + 1, by omega, by omega, by go_num, N2.out, LX.out, GX.out⟩
                  · omega
            · have hkni : ¬ (k : Int) < n := by omega
              obtain rfl : n = k := by omega
              have BQ : Hid (Below w.heap.size w wr) := BW.out.trans (GX.out.below w.heap.size (fun x hx => by have := OBW.out; rcases hx with hx | hx <;> omega) BW.out.size)
              have LR := hid (lay_round LAY.out hT)
              have N2 : Hid (Part (fun g => g ≠ w.heap.size) wr (.slice nao nl ncap) ((lst (hitF (edge L labels) dv Ly) n).map fun x : Nat => (x : Int))) := NX.out.mono (fun x h1 h2 => by have := OBW.out; omega)
              have hless := HLESS.out
              clear NX
              go_wp2_with fail
              go_roundg (left2 n (dq (edge L labels) dv Ly d n false) (lst (hitF (edge L labels) dv Ly) n))
              · exact ⟨d + 1, _, _, by go_num, Nat.le_refl _, by omega, lst_le _ _, LR.out, N2.out, LX.out, BQ.out⟩
              · omega
end Go.Proofs.YtdihbeffomibeaaGreatDoor
namespace Go.Proofs.YtdihbeffomibeaaGreatDoor
set_option linter.unusedVariables false
set_option linter.unusedSimpArgs false
open Go.RowKit

theorem Dists.far {E : Nat → Nat → Bool} {n T : Nat} {dv : Nat → Nat} (h : Dists E n T dv) (hT : T < n) (S : Nat) (hS : S < n) : IsFar E n S T (dI dv S) := by
  by_cases h0 : dv S = 0
  · rw [dI_neg dv S h0]
    refine .inr ⟨rfl, fun S' T' e1 h1 e2 r hr hw => ?_⟩
    obtain rfl : S = S' := by omega
    obtain rfl : T = T' := by omega
    exact (h S hS).2 h0 r.length (List.length_pos_iff.2 hr) ⟨r, rfl, hw⟩
  · rw [dI_pos dv S h0]
    exact .inl ⟨S, T, dv S, rfl, hS, rfl, hT, rfl, (h S hS).1 h0⟩

set_option maxHeartbeats 4000000 in
set_option maxRecDepth 100000 in
theorem rdistance_is (b n : Nat) (v : Value) (rw' : Nat → Nat) (L : Nat → Nat → Nat) (labels s to' : Int) (w : World) (h : RefG w b n v rw' L) :
    Calls Tryz.prog 47 #[.pointer (some ⟨b, 0, none⟩), .int .i64 labels, .int .i64 s, .int .i64 to'] w fun e w' => (∃ d, e = .returned (.int .i64 d) ∧ IsFar (edge L labels) n s to' d) ∧ Below w.heap.size w w' := by
  obtain ⟨ao, cap, hv, -⟩ := h.form
  have c0 := h.c0
  rw [hv] at c0
  have hn3 := h.bound
  by_cases hs : s < 0 ∨ (n : Int) ≤ s
  · have T1 := hid (rthere_no b n cap ao s w c0 hs)
    have HS := hid hs
    clear h hv c0 hs
    go_enter Tryz.func47, Tryz.ntmps47
    go_wp2_with (go_at_call 50; refine T1.out.mono ?_; rintro e w' ⟨rfl, rfl⟩)
    go_ret
    exact ⟨⟨-1, rfl, .inr ⟨rfl, fun S T e h1 => by have := HS.out; omega⟩⟩, Below.refl _ _⟩
  · obtain ⟨S, rfl⟩ : ∃ S : Nat, s = S := ⟨s.toNat, by omega⟩
    have hS : S < n := by omega
    have hSi : (S : Int) < n := by omega
    have T1 := hid (rthere_ok b n cap ao S w c0 hS)
    by_cases ht : to' < 0 ∨ (n : Int) ≤ to'
    · have T2 := hid (rthere_no b n cap ao to' w c0 ht)
      have NW := hid (noWay_off (E := edge L labels) (s := S) ht)
      clear h hv c0 hs ht
      go_enter Tryz.func47, Tryz.ntmps47
      go_wp2_with fail
      go_at_call 50
      refine T1.out.mono ?_
      rintro e w' ⟨rfl, rfl⟩
      go_wp2_with fail
      go_at_call 50
      refine T2.out.mono ?_
      rintro e w' ⟨rfl, rfl⟩
      go_wp2_with fail
      go_ret
      exact ⟨⟨-1, rfl, .inr ⟨rfl, fun S' T e h1 e2 r hr hw => NW.out T e2 r hr (by rw [show S = S' by omega]; exact hw)⟩⟩, Below.refl _ _⟩
    · obtain ⟨T, rfl⟩ : ∃ T : Nat, to' = T := ⟨to'.toNat, by omega⟩
      have hTn : T < n := by omega
      have T2 := hid (rthere_ok b n cap ao T w c0 hTn)
      have D := hid (distances_is b n v rw' L labels T w h hTn)
      clear h hv c0 hs ht
      go_enter Tryz.func47, Tryz.ntmps47
      go_wp2_with fail
      go_at_call 50
      refine T1.out.mono ?_
      rintro e w' ⟨rfl, rfl⟩
      go_wp2_with fail
      go_at_call 50
      refine T2.out.mono ?_
      rintro e w' ⟨rfl, rfl⟩
      go_wp2_with fail
      go_at_call 48
      refine D.out.mono ?_
      rintro e w1 ⟨⟨ob, dv, rfl, -, l1, d1⟩, b1⟩
      obtain ⟨ck, fk⟩ := l1.cell S hS
      have B1 := hid b1
      have F1 := hid (d1.far hTn S hS)
      clear l1 d1 b1
      go_wp2_with fail
      go_ret
      exact ⟨⟨_, rfl, F1.out⟩, B1.out⟩
end Go.Proofs.YtdihbeffomibeaaGreatDoor
