/-
  follow: the search itself.
  follow: where the node to begin with is none.
  slices.Reverse of ints.
  Shortest.
-/
import Derived.Test.YtdihbeffomibeaaGreatDoorY6
import Derived.WalkMore
import Derived.Deep.AppendLies
namespace Go.Proofs.YtdihbeffomibeaaGreatDoor
set_option linter.unusedVariables false
set_option linter.unusedSimpArgs false
open Go.RowKit

/-- The edges that count. -/
def edge (L : Nat → Nat → Nat) (labels : Int) : Nat → Nat → Bool := fun u v => endsF L u labels 4 v
/-- What the search answers: what was reached, and from where. -/
structure Trail (w : World) (n sb nb : Nat) (cd bf : Nat → Nat) : Prop where
  set : ∃ cb, Is w sb n cb (fun v => decide (cd v ≠ 0))
  bef : ∃ cur : Array Value, w.heap[nb]? = some (.cells cur 3) ∧ cur.size = n ∧ ∀ v, v < n → cur[v]? = some (.int .i64 (bf v))
theorem Trail.later {w w' : World} {n sb nb : Nat} {cd bf : Nat → Nat} (h : Trail w n sb nb cd bf) (hb : Below w.heap.size w w') : Trail w' n sb nb cd bf := by
  obtain ⟨cb, h1⟩ := h.set
  obtain ⟨cur, h2, h3⟩ := h.bef
  exact ⟨⟨cb, h1.later hb⟩, cur, (hb.block nb (blt h2)).trans h2, h3⟩
theorem Fol.trail {HQ o : Nat} {w : World} {n rb sb cb nb tb qb : Nat} {cd bf : Nat → Nat} {l : List Int} (h : Fol HQ o w n rb sb cb nb tb qb cd bf l) (v1 v2 : Value) : Trail ((w.setCell ⟨rb, 0, none⟩ v1).setCell ⟨rb, 1, none⟩ v2) n sb nb cd bf := by
  obtain ⟨cur, h1, h2⟩ := h.bef
  obtain ⟨ws, s1, s2⟩ := h.set.ex
  have st : ∀ (x : Nat) (cs : Array Value) (t : TypeId), w.heap[x]? = some (.cells cs t) → t ≠ 102 → ((w.setCell ⟨rb, 0, none⟩ v1).setCell ⟨rb, 1, none⟩ v2).heap[x]? = some (.cells cs t) := fun x cs t hx ht => by
    have hne := tags hx h.res ht
    rw [Below.heap_setCell _ _ _ _ hne, Below.heap_setCell _ _ _ _ hne]
    exact hx
  exact ⟨⟨cb, ⟨ws, ⟨st _ _ _ s1.box (by decide), st _ _ _ s1.row (by decide), s1.len, s1.small, s1.bound⟩, s2⟩, h.set.top⟩, cur, st _ _ _ h1 (by decide), h2⟩
/-- How it ends: all is done, or the end was reached. -/
def Ends (E : Nat → Nat → Bool) (n s : Nat) (to' : Int) (cd bf : Nat → Nat) : Prop :=
  ∃ u cu t Q, Bfs E n s cd bf u cu t Q ∧ ((t = n ∧ Q = []) ∨ ∃ T : Nat, to' = T ∧ T < n ∧ cd T ≠ 0)

set_option maxHeartbeats 8000000 in
set_option maxRecDepth 100000 in
theorem follow_is (b n r s : Nat) (bk ck : Nat → Nat) (L : Nat → Nat → Nat) (labels to' : Int) (w : World) (h : Graph w b n r bk ck L) (hs : s < n) (hT : Tab w) :
    Calls Tryz.prog 63 #[.pointer (some ⟨b, 0, none⟩), .int .i64 labels, .int .i64 s, .int .i64 to'] w fun e w' => (∃ sb nb cd bf, e = .returned (.agg #[.pointer (some ⟨sb, 0, none⟩), .slice (some ⟨nb, 0, none⟩) n n]) ∧ Trail w' n sb nb cd bf ∧ Ends (edge L labels) n s to' cd bf) ∧ Below w.heap.size w w' := by
  have hmk := run_make_row' (P := Tryz.prog) 40 3 (.int .i64 0) 8 Tryz.underlying40 Tryz.info3 rfl .i64 .i64 n (by have := h.bound; omega) (by have := h.bound; omega)
  rw [made_ints] at hmk
  have HMK := hid hmk
  have G0 := hid h
  have T0 := hid hT
  have hn3 := h.bound
  have hni : (n : Int) ≤ 300 := by omega
  have hn0 : (0 : Int) ≤ n := by omega
  have N0 : Hid (∀ w', Below w.heap.size w w' → Calls Tryz.prog 40 #[.pointer (some ⟨b, 0, none⟩)] w' fun e w'' => e = .returned (.int .i64 n) ∧ w' = w'') := fun w' hb => nodes_is b n w' (h.later hb).c0 (h.later hb).c1
  clear h hT hmk
  go_enter Tryz.func63, Tryz.ntmps63
  go_wp2_with fail
  go_step3
  go_wp2_with fail
  go_at_call 40
  refine (N0.out _ (below_box _ _)).mono ?_
  rintro e w' ⟨rfl, rfl⟩
  go_wp2_with fail
  go_at_call 53
  refine (new_is n (by omega) _).mono ?_
  rintro e w1 ⟨rfl, s1, b1, z1⟩
  have S1 := hid s1
  have B1 : Hid (Below w.heap.size w w1) := (below_box w _).trans (b1.mono (by simp))
  have R1 : Hid (w1.heap[w.heap.size]? = some (.cells #[.pointer none, .slice none 0 0] 102)) := (b1.block _ (by simp)).trans (heap_alloc_new w _)
  simp only [World.size_alloc] at S1
  clear s1 b1 z1
  go_wp2_with fail
  go_at_call 40
  refine (N0.out _ B1.out).mono ?_
  rintro e w' ⟨rfl, rfl⟩
  have hmk := HMK.out
  go_wp2_with fail
  clear hmk HMK N0
  have F0 := hid (fol_start w1 n w.heap.size (w.heap.size + 1 + 1) (w.heap.size + 1) s S1.out R1.out)
  have B2 : Hid (Below w.heap.size w ((((w1.alloc (.cells (Array.replicate n (.int .i64 0)) 3)).alloc (.cells #[.pointer (some ⟨w.heap.size + 1 + 1, 0, none⟩), .slice (some ⟨w1.heap.size, 0, none⟩) n n] 102)).alloc (.cells #[.slice none 0 0] 124)).alloc (.cells #[.int .i64 s] 3))) :=
    (((B1.out.alloc (by have := B1.out.size; omega) _).alloc (by have := B1.out.size; simp; omega) _).alloc (by have := B1.out.size; simp; omega) _).alloc (by have := B1.out.size; simp; omega) _
  have CL : Hid (((((w1.alloc (.cells (Array.replicate n (.int .i64 0)) 3)).alloc (.cells #[.pointer (some ⟨w.heap.size + 1 + 1, 0, none⟩), .slice (some ⟨w1.heap.size, 0, none⟩) n n] 102)).alloc (.cells #[.slice none 0 0] 124)).alloc (.cells #[.int .i64 s] 3)).cell? ⟨w1.heap.size + 1 + 1 + 1, 0, none⟩ = some (.int .i64 s)) := by
    have := new_cells (((w1.alloc (.cells (Array.replicate n (.int .i64 0)) 3)).alloc (.cells #[.pointer (some ⟨w.heap.size + 1 + 1, 0, none⟩), .slice (some ⟨w1.heap.size, 0, none⟩) n n] 102)).alloc (.cells #[.slice none 0 0] 124)) #[.int .i64 s] 3 0
    exact hid (by simpa using this)
  have LB : Hid (w.heap.size ≤ w1.heap.size) := B1.out.size
  generalize ((((w1.alloc (.cells (Array.replicate n (.int .i64 0)) 3)).alloc (.cells #[.pointer (some ⟨w.heap.size + 1 + 1, 0, none⟩), .slice (some ⟨w1.heap.size, 0, none⟩) n n] 102)).alloc (.cells #[.slice none 0 0] 124)).alloc (.cells #[.int .i64 s] 3)) = W at *
  clear B1 R1 S1
  have SBL : Hid (w.heap.size ≤ w.heap.size + 1) := by show w.heap.size ≤ w.heap.size + 1; omega
  generalize w.heap.size + 1 + 1 = sb at *
  generalize w.heap.size + 1 = cb at *
  have LQ : Hid (∀ k, (k = w1.heap.size + 1 + 1 ∨ QP (w1.heap.size + 3) 0 k) → w.heap.size ≤ k) := by
    intro k hk
    have := LB.out
    rcases hk with rfl | hk
    · omega
    · have := hk.1
      omega
  have QNB : Hid (¬ QP (w1.heap.size + 3) 0 (w1.heap.size + 1 + 1)) := by intro h; have := h.1; omega
  go_at_call 78
  refine (put_is (QP (w1.heap.size + 3) 0) (w1.heap.size + 1 + 1) [] (w1.heap.size + 1 + 1 + 1) s W QNB.out (fun g hg => ⟨by have := F0.out.here; omega, by have := F0.out.here; omega⟩) F0.out.que CL.out (by decide)).mono ?_
  rintro e w2 ⟨rfl, q2, g2⟩
  have F2 := hid (F0.out.put q2 g2)
  have B3 : Hid (Below w.heap.size w w2) := B2.out.trans (g2.below w.heap.size LQ.out B2.out.size)
  clear q2 g2 F0 B2 CL
  simp only [List.nil_append] at F2
  generalize hnb : w1.heap.size = nb at *
  clear hnb
  go_wp2_with fail
  go_step3
  go_wp2_with fail
  go_at_call 79
  refine (take_some (QP (nb + 3) 0) (nb + 1 + 1) s [] w2 QNB.out F2.out.que (by decide)).mono ?_
  rintro e w3 ⟨rfl, q3, g3, z3⟩
  have F3 := hid (F2.out.put q3 ⟨g3.os, g3.tape, g3.output, g3.size, fun k hk hn => g3.block k hk (fun e => hn (.inl e))⟩)
  have B4 : Hid (Below w.heap.size w w3) := B3.out.trans (g3.below w.heap.size (fun k hk => LQ.out k (.inl hk)) B3.out.size)
  clear q3 g3 z3 F2 B3
  go_wp2_with fail
  go_loopg [13, 14, 16] (n + 2) (fun g node ok _ wr => Aside (Below w.heap.size w wr) ∧ ((ok = .bool true ∧ ∃ cd bf u cu Q, node = .int .i64 (u : Nat) ∧ Aside (Bfs (edge L labels) n s cd bf u cu 0 Q) ∧ Aside (Fol (nb + 3) 0 wr n w.heap.size sb cb nb (nb + 1) (nb + 1 + 1) cd bf (Q.map fun x => (x.1 : Int))) ∧ Q.length + Pop.cnt (fun v => decide (cd v = 0)) n + 1 ≤ g ∧ Q.length + Pop.cnt (fun v => decide (cd v = 0)) n ≤ n) ∨ (ok = .bool false ∧ node = .int .i64 0 ∧ ∃ cd bf u cu, Aside (Bfs (edge L labels) n s cd bf u cu n []) ∧ Aside (Fol (nb + 3) 0 wr n w.heap.size sb cb nb (nb + 1) (nb + 1 + 1) cd bf []))))
  case atStart =>
    have hc : Pop.cnt (fun v => decide ((0 : Nat) = 0)) n ≤ n := Pop.cnt_le _ _
    exact ⟨B4.out, .inl ⟨rfl, fun _ => 0, fun _ => 0, s, s + 1, [], rfl, Bfs.first _ n s _ hs, F3.out, by show 0 + Pop.cnt (fun v => decide ((0 : Nat) = 0)) n + 1 ≤ n + 2; omega, by show 0 + Pop.cnt (fun v => decide ((0 : Nat) = 0)) n ≤ n; omega⟩⟩
  case round =>
    clear F3 B4
    obtain ⟨BX, ⟨rfl, cd, bf, u, cu, Q, rfl, BFS, FX, hg, hq⟩ | ⟨rfl, rfl, cd, bf, u, cu, BFS, FX⟩⟩ := hrel
    · have hun : u < n := (BFS.out.code BFS.out.cur).1
      go_wp2_with fail
      go_at_call 42
      refine (out_ok b n r u bk ck L labels wr (G0.out.later BX.out) hun (T0.out.later BX.out)).mono ?_
      rintro e w4 ⟨⟨v4, rfl, i4⟩, b4⟩
      obtain ⟨ao, cap, o, rfl, ro, hoo⟩ := i4.rowO (HQ := nb + 3) FX.out.here
      have F4 : Hid (Fol (nb + 3) o w4 n w.heap.size sb cb nb (nb + 1) (nb + 1 + 1) cd bf (Q.map fun x => (x.1 : Int))) := (FX.out.other (hoo.elim .inl (fun h => .inr (by omega)))).later b4
      have RO := hid ro
      have OLO : Hid (o < w4.heap.size ∨ (lst (endsF L u labels 4) n) = []) := by
        cases hl : lst (endsF L u labels 4) n with
        | nil => exact .inr rfl
        | cons x l =>
          obtain ⟨_, _, cur, h1, _⟩ := ro 0 (by rw [hl]; simp)
          exact .inl (blt h1)
      have B5 : Hid (Below w.heap.size w w4) := BX.out.trans (b4.mono BX.out.size)
      have hll := lst_le (endsF L u labels 4) n
      have hlli : ((lst (endsF L u labels 4) n).length : Int) ≤ 300 := by omega
      clear i4 b4 ro hoo BX FX
      go_wp2_with fail
      go_loopg [16, 45] (lst (endsF L u labels 4) n).length (fun g2 _ i wq => ∃ (j t : Nat) (cd bf : Nat → Nat) (Q : List (Nat × Nat)), j ≤ (lst (endsF L u labels 4) n).length ∧ (lst (endsF L u labels 4) n).length - j ≤ g2 ∧ i = .int .i64 j ∧ t ≤ n ∧ Aside (lst (endsF L u labels 4) t = (lst (endsF L u labels 4) n).take j) ∧ Aside (Bfs (edge L labels) n s cd bf u cu t Q) ∧ Aside (Fol (nb + 3) o wq n w.heap.size sb cb nb (nb + 1) (nb + 1 + 1) cd bf (Q.map fun x => (x.1 : Int))) ∧ Aside (RowO (nb + 3) wq ao o (lst (endsF L u labels 4) n)) ∧ Aside (Below w.heap.size w wq) ∧ Q.length + Pop.cnt (fun v => decide (cd v = 0)) n + 1 ≤ gk ∧ Q.length + Pop.cnt (fun v => decide (cd v = 0)) n ≤ n)
      case atStart => exact ⟨0, 0, cd, bf, Q, Nat.zero_le _, by omega, rfl, Nat.zero_le _, by show lst _ 0 = List.take 0 _; simp [lst], BFS.out, F4.out, RO.out, B5.out, hg, hq⟩
      case round =>
        clear F4 RO B5 BFS hg hq
        clear cd bf Q
        obtain ⟨j, t, cd, bf, Q, hj, hg2, rfl, htn, LT, BFS, FX, RX, BX, hg, hq⟩ := hrel
        by_cases hjl : j < (lst (endsF L u labels 4) n).length
        · have hjli : (j : Int) < (lst (endsF L u labels 4) n).length := by omega
          obtain ⟨rfl, hHQ, cur, hcur, hcj⟩ := RX.out j hjl
          have hol : o < wr.heap.size := blt hcur
          have cj : wr.cell? ⟨o, j, none⟩ = some (.int .i64 ((lst (endsF L u labels 4) n).getD j 0)) := (Lib.cell_of_heap hcur j).trans hcj
          obtain ⟨m1, m2, m3, m4, m5⟩ := lst_next (endsF L u labels 4) n t j htn LT.out hjl
          have b0 : wr.cell? ⟨nb + 1, 0, none⟩ = some (.pointer (some ⟨sb, 0, none⟩)) := Lib.cell_of_heap FX.out.box 0
          generalize hmm : (lst (endsF L u labels 4) n).getD j 0 = m at *
          have HAS := hid (has_is sb n cb _ m wr FX.out.set m2)
          have M1 := hid m1
          have M3 := hid m3
          have M4 := hid m4
          have M5 := hid m5
          clear m1 m3 m4 m5 hmm hcur hcj LT
          by_cases hcd : cd m = 0
          · have hdec : decide (cd m ≠ 0) = false := by simp [hcd]
            rw [hdec] at HAS
            have ADD := hid (add_is sb n cb _ m wr FX.out.set m2)
            have hmi : (m : Int) < n := by omega
            go_wp2_with fail
            go_at_call 64
            refine HAS.out.mono ?_
            rintro e w' ⟨rfl, rfl⟩
            go_wp2_with fail
            go_at_call 55
            refine ADD.out.mono ?_
            rintro e w5 ⟨rfl, s5, b5, z5⟩
            have CNT := hid (cnt_put cd m (cu * (n + 1) + (m + 1)) (by omega) hcd n)
            have F5 := hid (FX.out.reach m u (cu * (n + 1) + (m + 1)) m2 (by omega) s5 b5)
            have BF5 := hid (BFS.out.reach m M1.out m2 M3.out (fun k k1 k2 k3 => M4.out k k1 k2) hcd)
            obtain ⟨ws, t1, t2⟩ := FX.out.set.ex
            obtain ⟨cur, n1, n2, n3⟩ := FX.out.bef
            have x1 : w5.heap[nb + 1]? = some (.cells #[.pointer (some ⟨sb, 0, none⟩), .slice (some ⟨nb, 0, none⟩) n n] 102) := (b5.block _ (blt FX.out.box) (tags FX.out.box t1.row (by decide))).trans FX.out.box
            have x2 : w5.heap[nb]? = some (.cells cur 3) := (b5.block _ (blt n1) (tags n1 t1.row (by decide))).trans n1
            have e0 : w5.cell? ⟨nb + 1, 0, none⟩ = some (.pointer (some ⟨sb, 0, none⟩)) := Lib.cell_of_heap x1 0
            have e1 : w5.cell? ⟨nb + 1, 1, none⟩ = some (.slice (some ⟨nb, 0, none⟩) n n) := Lib.cell_of_heap x1 1
            have e2 : w5.cell? ⟨nb, m, none⟩ = some (.int .i64 (bf m)) := (Lib.cell_of_heap x2 m).trans (n3 m m2)
            have e3 : w5.frozen? ⟨nb, m, none⟩ = false := Lib.frozen_of_heap x2 m
            have x3 : w5.heap[w.heap.size]? = some (.cells #[.pointer none, .slice none 0 0] 102) := (b5.block _ (blt FX.out.res) (tags FX.out.res t1.row (by decide))).trans FX.out.res
            have r0 : w5.cell? ⟨w.heap.size, 0, none⟩ = some (.pointer none) := Lib.cell_of_heap x3 0
            have r1 : w5.cell? ⟨w.heap.size, 1, none⟩ = some (.slice none 0 0) := Lib.cell_of_heap x3 1
            have z0 : w5.frozen? ⟨w.heap.size, 0, none⟩ = false := Lib.frozen_of_heap x3 0
            have z1 : w5.frozen? ⟨w.heap.size, 1, none⟩ = false := Lib.frozen_of_heap x3 1
            have hne1 : w.heap.size ≠ nb := tags x3 x2 (by decide)
            have hne2 : nb ≠ w.heap.size := fun e => hne1 e.symm
            have R5 : Hid (RowO (nb + 3) (w5.setCell ⟨nb, m, none⟩ (.int .i64 u)) (some ⟨o, 0, none⟩) o (lst (endsF L u labels 4) n)) := RX.out.keep fun h0 cs hcs => by
              rw [Below.heap_setCell _ _ _ _ (show o ≠ nb by omega)]
              exact (b5.block o (blt hcs) (tags hcs t1.row (by decide))).trans hcs
            have B6 : Hid (Below w.heap.size w (w5.setCell ⟨nb, m, none⟩ (.int .i64 u))) := (BX.out.trans (b5.below (by have := SBL.out; omega) BX.out.size)).setCell LB.out _
            have hol5 : o < (w5.setCell ⟨nb, m, none⟩ (.int .i64 u)).heap.size := by rw [World.size_setCell, z5]; exact hol
            clear s5 b5 z5 HAS ADD t1 t2 n1 n2 n3 x1 x2 x3 b0 cj FX RX BX BFS ws cur
            by_cases ht : (m : Int) = to'
            · subst ht
              have hti : ((m : Int) == (m : Int)) = true := by simp
              go_wp2_with fail
              try rw [Exit.noGoto_ret]
              refine bodyPost_ret (v := .agg #[.pointer (some ⟨sb, 0, none⟩), .slice (some ⟨nb, 0, none⟩) n n]) (by simp [results, Tryz.results63, go_sem, r0, r1, hne1, hne2]) rfl ⟨⟨sb, nb, _, _, rfl, F5.out.trail _ _, _, _, _, _, BF5.out, .inr ⟨m, rfl, m2, ?_⟩⟩, (B6.out.setCell (Nat.le_refl _) _).setCell (Nat.le_refl _) _⟩
              simp only [if_pos]
              omega
            · have hti : ((m : Int) == to') = false := by simp [ht]
              go_wp2_with fail
              have F6 : Hid (Fol (nb + 3) o ((w5.setCell ⟨nb, m, none⟩ (.int .i64 u)).alloc (.cells #[.int .i64 m] 3)) n w.heap.size sb cb nb (nb + 1) (nb + 1 + 1) _ _ _) := F5.out.later (below_box _ _)
              have R6 : Hid (RowO (nb + 3) ((w5.setCell ⟨nb, m, none⟩ (.int .i64 u)).alloc (.cells #[.int .i64 m] 3)) (some ⟨o, 0, none⟩) o (lst (endsF L u labels 4) n)) := R5.out.keep fun h0 cs hcs => ((below_box _ _).block o (blt hcs)).trans hcs
              have B7 : Hid (Below w.heap.size w ((w5.setCell ⟨nb, m, none⟩ (.int .i64 u)).alloc (.cells #[.int .i64 m] 3))) := B6.out.alloc B6.out.size _
              have C6 : Hid (((w5.setCell ⟨nb, m, none⟩ (.int .i64 u)).alloc (.cells #[.int .i64 m] 3)).cell? ⟨w5.heap.size, 0, none⟩ = some (.int .i64 m)) := by
                have := new_cells (w5.setCell ⟨nb, m, none⟩ (.int .i64 u)) #[.int .i64 m] 3 0
                exact hid (by simpa using this)
              have hol6 : o < ((w5.setCell ⟨nb, m, none⟩ (.int .i64 u)).alloc (.cells #[.int .i64 m] 3)).heap.size := by rw [World.size_alloc]; omega
              clear F5 R5 B6 hol5 e0 e1 e2 e3 r0 r1 z0 z1
              generalize (w5.setCell ⟨nb, m, none⟩ (.int .i64 u)).alloc (.cells #[.int .i64 m] 3) = W6 at *
              go_at_call 78
              refine (put_is (QP (nb + 3) o) (nb + 1 + 1) (Q.map fun x => (x.1 : Int)) _ m W6 (fun h => by have := h.1; omega) (fun g hg => ⟨by have := F6.out.here; omega, by omega⟩) F6.out.que C6.out (by simp; omega)).mono ?_
              rintro e w8 ⟨rfl, q8, g8⟩
              have F8 := hid (F6.out.put q8 g8)
              have R8 : Hid (RowO (nb + 3) w8 (some ⟨o, 0, none⟩) o (lst (endsF L u labels 4) n)) := R6.out.keep fun h0 cs hcs => g8.at hcs (by
                rintro (e | e)
                · omega
                · exact e.2 rfl)
              have B8 : Hid (Below w.heap.size w w8) := B7.out.trans (g8.below w.heap.size (fun k hk => LQ.out k (hk.elim .inl fun h => .inr ⟨h.1, by have := h.1; omega⟩)) B7.out.size)
              have cnt := CNT.out
              rw [if_pos m2] at cnt
              clear q8 g8 F6 R6 B7 C6
              go_wp2_with fail
              go_roundg ((lst (endsF L u labels 4) n).length - (j + 1))
              · exact ⟨j + 1, m + 1, _, _, _, by omega, by omega, by go_num, by omega, M5.out, BF5.out, by show Fol _ _ _ _ _ _ _ _ _ _ _ _ _; rw [List.map_append]; exact F8.out, R8.out, B8.out, by rw [List.length_append, List.length_singleton]; omega, by rw [List.length_append, List.length_singleton]; omega⟩
              · omega
          · have hdec : decide (cd m ≠ 0) = true := by simp [hcd]
            rw [hdec] at HAS
            go_wp2_with fail
            go_at_call 64
            refine HAS.out.mono ?_
            rintro e w' ⟨rfl, rfl⟩
            clear HAS cj b0
            go_wp2_with fail
            go_roundg ((lst (endsF L u labels 4) n).length - (j + 1))
            · exact ⟨j + 1, m + 1, cd, bf, Q, by omega, by omega, by go_num, by omega, M5.out, BFS.out.skip m M1.out (fun k k1 k2 k3 => M4.out k k1 k2) hcd, FX.out, RX.out, BX.out, hg, hq⟩
            · omega
        · have hjli : ¬ (j : Int) < (lst (endsF L u labels 4) n).length := by omega
          have BD := hid (BFS.out.done htn (lst_end (endsF L u labels 4) n t j htn LT.out hjl))
          have FD := hid (FX.out.other (o' := 0) (.inr (by omega)))
          clear BFS FX RX LT
          go_wp2_with fail
          go_at_call 79
          cases Q with
          | nil =>
            refine (take_none (QP (nb + 3) 0) (nb + 1 + 1) wr FD.out.que).mono ?_
            rintro e w' ⟨rfl, rfl⟩
            go_wp2_with fail
            go_roundg 0
            · exact ⟨BX.out, .inr ⟨rfl, rfl, cd, bf, u, cu, BD.out, FD.out⟩⟩
            · omega
          | cons x Q =>
            obtain ⟨v, c⟩ := x
            refine (take_some (QP (nb + 3) 0) (nb + 1 + 1) v (Q.map fun x : Nat × Nat => (x.1 : Int)) wr QNB.out FD.out.que (by simp at hq ⊢; omega)).mono ?_
            rintro e w7 ⟨rfl, q7, g7, z7⟩
            have F7 := hid (FD.out.put q7 ⟨g7.os, g7.tape, g7.output, g7.size, fun k hk hn => g7.block k hk (fun e => hn (.inl e))⟩)
            have B7 : Hid (Below w.heap.size w w7) := BX.out.trans (g7.below w.heap.size (fun k hk => LQ.out k (.inl hk)) BX.out.size)
            have BN := hid BD.out.next
            clear q7 g7 z7 FD BX BD
            rw [List.length_cons] at hg hq
            go_wp2_with fail
            go_roundg (Q.length + Pop.cnt (fun v => decide (cd v = 0)) n + 1)
            · exact ⟨B7.out, .inl ⟨rfl, cd, bf, v, c, Q, rfl, BN.out, F7.out, Nat.le_refl _, by omega⟩⟩
            · omega
    · have b0 : wr.cell? ⟨nb + 1, 0, none⟩ = some (.pointer (some ⟨sb, 0, none⟩)) := Lib.cell_of_heap FX.out.box 0
      have b1 : wr.cell? ⟨nb + 1, 1, none⟩ = some (.slice (some ⟨nb, 0, none⟩) n n) := Lib.cell_of_heap FX.out.box 1
      have r0 : wr.cell? ⟨w.heap.size, 0, none⟩ = some (.pointer none) := Lib.cell_of_heap FX.out.res 0
      have r1 : wr.cell? ⟨w.heap.size, 1, none⟩ = some (.slice none 0 0) := Lib.cell_of_heap FX.out.res 1
      have z0 : wr.frozen? ⟨w.heap.size, 0, none⟩ = false := Lib.frozen_of_heap FX.out.res 0
      have z1 : wr.frozen? ⟨w.heap.size, 1, none⟩ = false := Lib.frozen_of_heap FX.out.res 1
      go_wp2_with fail
      try rw [Exit.noGoto_ret]
      refine bodyPost_ret (v := .agg #[.pointer (some ⟨sb, 0, none⟩), .slice (some ⟨nb, 0, none⟩) n n]) (by simp [results, Tryz.results63, go_sem, r0, r1]) rfl ⟨⟨sb, nb, _, _, rfl, FX.out.trail _ _, _, _, _, _, BFS.out, .inl ⟨rfl, rfl⟩⟩, (BX.out.setCell (Nat.le_refl _) _).setCell (Nat.le_refl _) _⟩
end Go.Proofs.YtdihbeffomibeaaGreatDoor
namespace Go.Proofs.YtdihbeffomibeaaGreatDoor
set_option linter.unusedVariables false
set_option linter.unusedSimpArgs false
open Go.RowKit

set_option maxHeartbeats 8000000 in
set_option maxRecDepth 100000 in
theorem follow_off (b n r : Nat) (s : Int) (bk ck : Nat → Nat) (L : Nat → Nat → Nat) (labels to' : Int) (w : World) (h : Graph w b n r bk ck L) (hs : s < 0 ∨ (n : Int) ≤ s) (hT : Tab w) :
    Calls Tryz.prog 63 #[.pointer (some ⟨b, 0, none⟩), .int .i64 labels, .int .i64 s, .int .i64 to'] w fun e w' => (∃ sb nb bf, e = .returned (.agg #[.pointer (some ⟨sb, 0, none⟩), .slice (some ⟨nb, 0, none⟩) n n]) ∧ Trail w' n sb nb (fun _ => 0) bf) ∧ Below w.heap.size w w' := by
  have hmk := run_make_row' (P := Tryz.prog) 40 3 (.int .i64 0) 8 Tryz.underlying40 Tryz.info3 rfl .i64 .i64 n (by have := h.bound; omega) (by have := h.bound; omega)
  rw [made_ints] at hmk
  have HMK := hid hmk
  have G0 := hid h
  have T0 := hid hT
  have hn3 := h.bound
  have hni : (n : Int) ≤ 300 := by omega
  have hn0 : (0 : Int) ≤ n := by omega
  have N0 : Hid (∀ w', Below w.heap.size w w' → Calls Tryz.prog 40 #[.pointer (some ⟨b, 0, none⟩)] w' fun e w'' => e = .returned (.int .i64 n) ∧ w' = w'') := fun w' hb => nodes_is b n w' (h.later hb).c0 (h.later hb).c1
  have HS := hid hs
  clear h hT hmk hs
  go_enter Tryz.func63, Tryz.ntmps63
  go_wp2_with fail
  go_step3
  go_wp2_with fail
  go_at_call 40
  refine (N0.out _ (below_box _ _)).mono ?_
  rintro e w' ⟨rfl, rfl⟩
  go_wp2_with fail
  go_at_call 53
  refine (new_is n (by omega) _).mono ?_
  rintro e w1 ⟨rfl, s1, b1, z1⟩
  have S1 := hid s1
  have B1 : Hid (Below w.heap.size w w1) := (below_box w _).trans (b1.mono (by simp))
  have R1 : Hid (w1.heap[w.heap.size]? = some (.cells #[.pointer none, .slice none 0 0] 102)) := (b1.block _ (by simp)).trans (heap_alloc_new w _)
  simp only [World.size_alloc] at S1
  clear s1 b1 z1
  go_wp2_with fail
  go_at_call 40
  refine (N0.out _ B1.out).mono ?_
  rintro e w' ⟨rfl, rfl⟩
  have hmk := HMK.out
  go_wp2_with fail
  clear hmk HMK N0
  have F0 := hid (fol_start w1 n w.heap.size (w.heap.size + 1 + 1) (w.heap.size + 1) s S1.out R1.out)
  have B2 : Hid (Below w.heap.size w ((((w1.alloc (.cells (Array.replicate n (.int .i64 0)) 3)).alloc (.cells #[.pointer (some ⟨w.heap.size + 1 + 1, 0, none⟩), .slice (some ⟨w1.heap.size, 0, none⟩) n n] 102)).alloc (.cells #[.slice none 0 0] 124)).alloc (.cells #[.int .i64 s] 3))) :=
    (((B1.out.alloc (by have := B1.out.size; omega) _).alloc (by have := B1.out.size; simp; omega) _).alloc (by have := B1.out.size; simp; omega) _).alloc (by have := B1.out.size; simp; omega) _
  have CL : Hid (((((w1.alloc (.cells (Array.replicate n (.int .i64 0)) 3)).alloc (.cells #[.pointer (some ⟨w.heap.size + 1 + 1, 0, none⟩), .slice (some ⟨w1.heap.size, 0, none⟩) n n] 102)).alloc (.cells #[.slice none 0 0] 124)).alloc (.cells #[.int .i64 s] 3)).cell? ⟨w1.heap.size + 1 + 1 + 1, 0, none⟩ = some (.int .i64 s)) := by
    have := new_cells (((w1.alloc (.cells (Array.replicate n (.int .i64 0)) 3)).alloc (.cells #[.pointer (some ⟨w.heap.size + 1 + 1, 0, none⟩), .slice (some ⟨w1.heap.size, 0, none⟩) n n] 102)).alloc (.cells #[.slice none 0 0] 124)) #[.int .i64 s] 3 0
    exact hid (by simpa using this)
  have LB : Hid (w.heap.size ≤ w1.heap.size) := B1.out.size
  generalize ((((w1.alloc (.cells (Array.replicate n (.int .i64 0)) 3)).alloc (.cells #[.pointer (some ⟨w.heap.size + 1 + 1, 0, none⟩), .slice (some ⟨w1.heap.size, 0, none⟩) n n] 102)).alloc (.cells #[.slice none 0 0] 124)).alloc (.cells #[.int .i64 s] 3)) = W at *
  clear B1 R1 S1
  have SBL : Hid (w.heap.size ≤ w.heap.size + 1) := by show w.heap.size ≤ w.heap.size + 1; omega
  generalize w.heap.size + 1 + 1 = sb at *
  generalize w.heap.size + 1 = cb at *
  have LQ : Hid (∀ k, (k = w1.heap.size + 1 + 1 ∨ QP (w1.heap.size + 3) 0 k) → w.heap.size ≤ k) := by
    intro k hk
    have := LB.out
    rcases hk with rfl | hk
    · omega
    · have := hk.1
      omega
  have QNB : Hid (¬ QP (w1.heap.size + 3) 0 (w1.heap.size + 1 + 1)) := by intro h; have := h.1; omega
  go_at_call 78
  refine (put_is (QP (w1.heap.size + 3) 0) (w1.heap.size + 1 + 1) [] (w1.heap.size + 1 + 1 + 1) s W QNB.out (fun g hg => ⟨by have := F0.out.here; omega, by have := F0.out.here; omega⟩) F0.out.que CL.out (by decide)).mono ?_
  rintro e w2 ⟨rfl, q2, g2⟩
  have F2 := hid (F0.out.put q2 g2)
  have B3 : Hid (Below w.heap.size w w2) := B2.out.trans (g2.below w.heap.size LQ.out B2.out.size)
  clear q2 g2 F0 B2 CL
  simp only [List.nil_append] at F2
  generalize hnb : w1.heap.size = nb at *
  clear hnb
  go_wp2_with fail
  go_step3
  go_wp2_with fail
  go_at_call 79
  refine (take_some (QP (nb + 3) 0) (nb + 1 + 1) s [] w2 QNB.out F2.out.que (by decide)).mono ?_
  rintro e w3 ⟨rfl, q3, g3, z3⟩
  have F3 := hid (F2.out.put q3 ⟨g3.os, g3.tape, g3.output, g3.size, fun k hk hn => g3.block k hk (fun e => hn (.inl e))⟩)
  have B4 : Hid (Below w.heap.size w w3) := B3.out.trans (g3.below w.heap.size (fun k hk => LQ.out k (.inl hk)) B3.out.size)
  clear q3 g3 z3 F2 B3
  go_wp2_with fail
  go_loopg [13, 14, 16] 1 (fun g node ok _ wr => Aside (Below w.heap.size w wr) ∧ Aside (Fol (nb + 3) 0 wr n w.heap.size sb cb nb (nb + 1) (nb + 1 + 1) (fun _ => 0) (fun _ => 0) []) ∧ ((ok = .bool true ∧ node = .int .i64 s ∧ 1 ≤ g) ∨ (ok = .bool false ∧ node = .int .i64 0)))
  case atStart => exact ⟨B4.out, F3.out, .inl ⟨rfl, rfl, Nat.le_refl _⟩⟩
  case round =>
    clear F3 B4
    obtain ⟨BX, FX, ⟨rfl, rfl, hg⟩ | ⟨rfl, rfl⟩⟩ := hrel
    · go_wp2_with fail
      go_at_call 42
      refine (out_no b n r s bk ck L labels wr (G0.out.later BX.out) HS.out).mono ?_
      rintro e w4 ⟨rfl, rfl⟩
      go_wp2_with fail
      go_loopg [16, 45] 0 (fun g2 _ i wq => i = .int .i64 0 ∧ wr = wq)
      case atStart => exact ⟨rfl, rfl⟩
      case round =>
        obtain ⟨rfl, rfl⟩ := hrel
        go_wp2_with fail
        go_at_call 79
        refine (take_none (QP (nb + 3) 0) (nb + 1 + 1) _ FX.out.que).mono ?_
        rintro e w' ⟨rfl, rfl⟩
        go_wp2_with fail
        go_roundg 0
        · exact ⟨BX.out, FX.out, .inr ⟨rfl, rfl⟩⟩
        · omega
    · have b0 : wr.cell? ⟨nb + 1, 0, none⟩ = some (.pointer (some ⟨sb, 0, none⟩)) := Lib.cell_of_heap FX.out.box 0
      have b1 : wr.cell? ⟨nb + 1, 1, none⟩ = some (.slice (some ⟨nb, 0, none⟩) n n) := Lib.cell_of_heap FX.out.box 1
      have r0 : wr.cell? ⟨w.heap.size, 0, none⟩ = some (.pointer none) := Lib.cell_of_heap FX.out.res 0
      have r1 : wr.cell? ⟨w.heap.size, 1, none⟩ = some (.slice none 0 0) := Lib.cell_of_heap FX.out.res 1
      have z0 : wr.frozen? ⟨w.heap.size, 0, none⟩ = false := Lib.frozen_of_heap FX.out.res 0
      have z1 : wr.frozen? ⟨w.heap.size, 1, none⟩ = false := Lib.frozen_of_heap FX.out.res 1
      go_wp2_with fail
      try rw [Exit.noGoto_ret]
      refine bodyPost_ret (v := .agg #[.pointer (some ⟨sb, 0, none⟩), .slice (some ⟨nb, 0, none⟩) n n]) (by simp [results, Tryz.results63, go_sem, r0, r1]) rfl ⟨⟨sb, nb, _, rfl, FX.out.trail _ _⟩, (BX.out.setCell (Nat.le_refl _) _).setCell (Nat.le_refl _) _⟩
end Go.Proofs.YtdihbeffomibeaaGreatDoor
namespace Go.Proofs.YtdihbeffomibeaaGreatDoor
set_option linter.unusedVariables false
set_option linter.unusedSimpArgs false
open Go.RowKit

/-- A list with its first and its last i swapped. -/
def swp (l : List Int) (i j : Nat) : Int := if j < i ∨ l.length ≤ j + i then l.getD (l.length - 1 - j) 0 else l.getD j 0
/-- A row of numbers in block g. -/
def Lay1 (w : World) (g : Nat) (N n : Nat) (f : Nat → Int) : Prop := ∃ cur : Array Value, w.heap[g]? = some (.cells cur 3) ∧ (cur.size = N ∧ n ≤ N) ∧ ∀ j, j < n → cur[j]? = some (.int .i64 (f j))
theorem Lay1.put {w : World} {g N n : Nat} {f : Nat → Int} (h : Lay1 w g N n f) (i : Nat) (x : Int) (hi : i < n) : Lay1 (w.setCell ⟨g, i, none⟩ (.int .i64 x)) g N n (fun j => if j = i then x else f j) := by
  obtain ⟨cur, h1, h2, h3⟩ := h
  refine ⟨cur.setIfInBounds i (.int .i64 x), Go.Joins.block_setCell h1 _, by simpa using h2, fun j hj => ?_⟩
  by_cases e : j = i
  · subst e
    rw [Array.getElem?_setIfInBounds_self_of_lt (by omega)]
    simp
  · rw [Array.getElem?_setIfInBounds_ne (fun e' => e e'.symm), h3 j hj]
    simp [e]
theorem Lay1.congr {w : World} {g N n : Nat} {f f' : Nat → Int} (h : Lay1 w g N n f) (he : ∀ j, j < n → f j = f' j) : Lay1 w g N n f' := by
  obtain ⟨cur, h1, h2, h3⟩ := h
  exact ⟨cur, h1, h2, fun j hj => by rw [← he j hj]; exact h3 j hj⟩
theorem Lay1.cell {w : World} {g N n : Nat} {f : Nat → Int} (h : Lay1 w g N n f) (j : Nat) (hj : j < n) : w.cell? ⟨g, j, none⟩ = some (.int .i64 (f j)) ∧ w.frozen? ⟨g, j, none⟩ = false := by
  obtain ⟨cur, h1, h2, h3⟩ := h
  exact ⟨(Lib.cell_of_heap h1 j).trans (h3 j hj), Lib.frozen_of_heap h1 j⟩
theorem swp_step (l : List Int) (i : Nat) (h : 2 * i + 1 < l.length) (j : Nat) (hj : j < l.length) :
    (if j = l.length - 1 - i then l.getD i 0 else if j = i then l.getD (l.length - 1 - i) 0 else swp l i j) = swp l (i + 1) j := by
  unfold swp
  by_cases e1 : j = l.length - 1 - i
  · rw [if_pos e1, if_pos (by omega)]
    congr 1
    omega
  · rw [if_neg e1]
    by_cases e2 : j = i
    · rw [if_pos e2, if_pos (by omega), e2]
    · rw [if_neg e2]
      by_cases e3 : j < i ∨ l.length ≤ j + i
      · rw [if_pos e3, if_pos (by omega)]
      · rw [if_neg e3, if_neg (by omega)]
theorem swp_end (l : List Int) (i : Nat) (h : ¬ 2 * i + 1 < l.length) (j : Nat) (hj : j < l.length) (hi : 2 * i ≤ l.length) : swp l i j = l.reverse.getD j 0 := by
  have e : l.reverse.getD j 0 = l.getD (l.length - 1 - j) 0 := by
    simp [List.getD, List.getElem?_reverse hj]
  unfold swp
  rw [e]
  by_cases e3 : j < i ∨ l.length ≤ j + i
  · rw [if_pos e3]
  · rw [if_neg e3]
    congr 1
    omega

set_option maxHeartbeats 4000000 in
set_option maxRecDepth 100000 in
theorem reverse_is (g cap : Nat) (l : List Int) (w : World) (h : Lay1 w g cap l.length (fun j => l.getD j 0)) (hl : l.length < 10000) :
    Calls Tryz.prog 65 #[.slice (some ⟨g, 0, none⟩) l.length cap] w fun e w' => e = .returned (.tuple #[]) ∧ Lay1 w' g cap l.length (fun j => l.reverse.getD j 0) ∧ Beside g w w' := by
  have H := hid h
  clear h
  have hli : (l.length : Int) < 10000 := by omega
  go_enter Tryz.func65, Tryz.ntmps65
  go_wp2_with fail
  go_loopg [2, 3] l.length (fun gg x y wr => ∃ i : Nat, 2 * i ≤ l.length ∧ l.length - i ≤ gg ∧ x = .int .i64 i ∧ y = .int .i64 ((l.length : Int) - 1 - i) ∧ Aside (Lay1 wr g cap l.length (swp l i)) ∧ Aside (Beside g w wr))
  case atStart => exact ⟨0, by omega, by omega, rfl, by simp, H.out.congr (fun j hj => by unfold swp; rw [if_neg (by omega)]), Beside.refl _ _⟩
  case round =>
    obtain ⟨i, hi, hg, rfl, rfl, LX, BX⟩ := hrel
    by_cases hlt : 2 * i + 1 < l.length
    · obtain ⟨k, hk⟩ : ∃ k : Nat, k = l.length - 1 - i := ⟨_, rfl⟩
      have hki : (l.length : Int) - 1 - i = (k : Int) := by omega
      rw [hki]
      have h1 : (i : Int) < k := by omega
      have h2 : (i : Int) < l.length := by omega
      have h3 : (k : Int) < l.length := by omega
      have hne : i ≠ k := by omega
      obtain ⟨ci, fi⟩ := LX.out.cell i (by omega)
      obtain ⟨ckk, fk⟩ := LX.out.cell k (by omega)
      have e1 : swp l i i = l.getD i 0 := by unfold swp; rw [if_neg (by omega)]
      have e2 : swp l i k = l.getD k 0 := by unfold swp; rw [if_neg (by omega)]
      rw [e1] at ci
      rw [e2] at ckk
      have LN : Hid (Lay1 ((wr.setCell ⟨g, i, none⟩ (.int .i64 (l.getD k 0))).setCell ⟨g, k, none⟩ (.int .i64 (l.getD i 0))) g cap l.length (swp l (i + 1))) :=
        ((LX.out.put i (l.getD k 0) (by omega)).put k (l.getD i 0) (by omega)).congr (fun j hj => by rw [hk]; exact swp_step l i hlt j hj)
      have BN : Hid (Beside g w ((wr.setCell ⟨g, i, none⟩ (.int .i64 (l.getD k 0))).setCell ⟨g, k, none⟩ (.int .i64 (l.getD i 0)))) := (BX.out.setCell rfl _).setCell rfl _
      have HK := hid hk
      have hkl : k < l.length := by omega
      have hil : i < l.length := by omega
      clear e1 e2 LX BX hk hki
      generalize l.getD i 0 = xi at *
      generalize l.getD k 0 = xk at *
      go_wp2_with fail
      go_region
      all_goals (try go_wp2_with fail)
      go_roundg (l.length - (i + 1))
      · exact ⟨i + 1, by omega, by omega, by go_num, by have := HK.out; congr 1; omega, LN.out, BN.out.drewN 1⟩
      · omega
    · have hlti : ¬ ((i : Int) < (l.length : Int) - 1 - i) := by omega
      go_wp2_with fail
      refine bodyPost_end (results_none rfl _ _ _) rfl ⟨rfl, LX.out.congr (fun j hj => swp_end l i hlt j hj hi), BX.out⟩
end Go.Proofs.YtdihbeffomibeaaGreatDoor
namespace Go.Proofs.YtdihbeffomibeaaGreatDoor
set_option linter.unusedVariables false
set_option linter.unusedSimpArgs false
open Go.RowKit

theorem intsV_append (l : List Nat) (y : Nat) : intsV (l ++ [y]) = intsV l ++ [.int .i64 (y : Int)] := by simp [intsV]
/-- An append of one number to a slice of one's own. -/
theorem wpList_append_ints {ops : Array Oper} {rest : List Oper} {o : Oper} {a : Act} {Q : Exit → Act → World → Prop} (w : World)
    (hg : o.guard = none) (s x : Operand) (hop : o.op = Op.call { callee := Callee.builtin Builtin.append, args := #[s, x], argTypes := #[40, 40] })
    (B : Nat) (hB : B ≤ w.heap.size) (v : Value) (l : List Nat) (hs : a.eval s = v) (hv : Ints B w v l)
    (ab : Nat) (y : Nat) (c : Nat) (hx : a.eval x = .slice (some ⟨ab, 0, none⟩) 1 c) (hc : w.cell? ⟨ab, 0, none⟩ = some (.int .i64 y)) (hl : l.length < 10000)
    (h : ∀ g cap w', Ints B w' (.slice (some ⟨g, 0, none⟩) (l.length + 1) cap) (l ++ [y]) → Gro (fun k => B ≤ k) w w' → wpList Tryz.prog ops Q rest (a.put o.dst (.slice (some ⟨g, 0, none⟩) (l.length + 1) cap)) w') : wpList Tryz.prog ops Q (o :: rest) a w := by
  obtain ⟨i0, hi, hz'⟩ := Option.map_eq_some_iff.1 Tryz.info3i
  simp only [Prod.mk.injEq] at hz'
  obtain ⟨hz0, hz1, hz2⟩ := hz'
  have hnews : ∀ j u, ([.int .i64 (y : Int)] : List Value)[j]? = some u → w.cell? ((⟨ab, 0, none⟩ : Addr).add j) = some u := by
    intro j u hj
    cases j with
    | zero => rw [Addr.add_lit]; simp at hj; subst hj; exact hc
    | succ j => simp at hj
  refine wpList_append_lies w hg s x 40 hop B 3 i0 (.int .i64 0) 1 8 Tryz.underlying40 hi hz0 hz1 hz2 rfl (by decide) v l.length (intsV l) hs hv ⟨ab, 0, none⟩ 1 c [.int .i64 y] hx rfl hnews (by simp [Value.oneCell']) (by decide) (by simp [maxLen]; omega) (by omega) hB _ rfl (fun g cap w' h1 h2 h3 h4 => h g cap w' ?_ ?_)
  · show World.ownsRow _ _ _ _ _ _ _
    rw [List.length_append, List.length_singleton, intsV_append]
    exact h1
  · refine ⟨h2.os, h2.tape, h2.output, h2.size, fun k hk hn => h2.block k hk fun e => hn ?_⟩
    exact (World.ownsRow.lt hv k e.symm).1
theorem Ints.lay {B : Nat} {w : World} {g n cap : Nat} {l : List Nat} (h : Ints B w (.slice (some ⟨g, 0, none⟩) n cap) l) (hn : n = l.length) : Lay1 w g cap l.length (fun j => (l.map fun x : Nat => (x : Int)).getD j 0) ∧ B ≤ g ∧ cap ≤ maxLen := by
  subst hn
  rcases h.2 with ⟨h1, _⟩ | ⟨g', cap', cur, hv, hb, hg, h1, h2, h3, h4⟩
  · cases h1
  · injection hv with e1 e2 e3
    injection e1 with e1
    injection e1 with e1
    subst e1
    subst e3
    refine ⟨⟨cur, hg, ⟨by omega, h1⟩, fun j hj => ?_⟩, hb, h2⟩
    have e : cur.toList[j]? = (cur.toList.take (l.length * 1))[j]? := by rw [List.getElem?_take, if_pos (by omega)]
    rw [← Array.getElem?_toList, e, h4]
    simp [intsV, List.getElem?_map, List.getD, hj]
theorem Lay1.ints {B : Nat} {w : World} {g cap : Nat} {l : List Nat} (h : Lay1 w g cap l.length (fun j => (l.map fun x : Nat => (x : Int)).getD j 0)) (hB : B ≤ g) (hc : cap ≤ maxLen) : Ints B w (.slice (some ⟨g, 0, none⟩) l.length cap) l := by
  obtain ⟨cur, h1, ⟨h2, h3⟩, h4⟩ := h
  refine ⟨by simp [intsV], .inr ⟨g, cap, cur, rfl, hB, h1, h3, hc, by omega, ?_⟩⟩
  apply List.ext_getElem?
  intro j
  rw [List.getElem?_take]
  by_cases hj : j < l.length
  · rw [if_pos (by omega), Array.getElem?_toList, h4 j hj]
    simp [intsV, List.getElem?_map, List.getD, hj]
  · rw [if_neg (by omega), List.getElem?_eq_none (by simp [intsV]; omega)]
theorem Lay1.later {w w' : World} {g N n : Nat} {f : Nat → Int} (h : Lay1 w g N n f) (hb : Below w.heap.size w w') : Lay1 w' g N n f := by
  obtain ⟨cur, h1, h2⟩ := h
  exact ⟨cur, (hb.block g (blt h1)).trans h1, h2⟩
theorem ints_made (B : Nat) (w : World) (l : List Nat) (hB : B ≤ w.heap.size) (hl : l.length ≤ maxLen) : Ints B (w.alloc (.cells (intsV l).toArray 3)) (.slice (some ⟨w.heap.size, 0, none⟩) l.length l.length) l :=
  ⟨by simp [intsV], .inr ⟨w.heap.size, l.length, _, rfl, hB, heap_alloc_new w _, Nat.le_refl _, hl, by simp [intsV], by rw [Nat.mul_one]; exact List.take_of_length_le (by simp [intsV])⟩⟩

theorem noWay_off {E : Nat → Nat → Bool} {n s : Nat} {to' : Int} (h : to' < 0 ∨ (n : Int) ≤ to') : ∀ T : Nat, to' = T → ∀ r, r ≠ [] → ¬ Wl E n s r T := by
  rintro T rfl r hr hw
  have := hw.last hr
  omega
theorem cnt_mono (f g : Nat → Bool) : ∀ n, (∀ k, k < n → f k = true → g k = true) → Pop.cnt f n ≤ Pop.cnt g n := by
  intro n
  induction n with
  | zero => intro _; exact Nat.le_refl _
  | succ n ih =>
    intro h
    have h1 := ih (fun k hk => h k (by omega))
    have h2 := h n (by omega)
    simp only [Pop.cnt]
    cases hf : f n with
    | false => simp; omega
    | true => rw [h2 hf]; simp; omega
theorem cnt_more (f g : Nat → Bool) (m : Nat) : ∀ n, m < n → (∀ k, k < n → f k = true → g k = true) → f m = false → g m = true → Pop.cnt f n + 1 ≤ Pop.cnt g n := by
  intro n
  induction n with
  | zero => intro h; omega
  | succ n ih =>
    intro hm h hf hg
    simp only [Pop.cnt]
    by_cases e : m = n
    · subst e
      have h1 := cnt_mono f g m (fun k hk => h k (by omega))
      rw [hf, hg]
      simp
      omega
    · have h1 := ih (by omega) (fun k hk => h k (by omega)) hf hg
      have h2 := h n (by omega)
      cases hfn : f n with
      | false => simp; omega
      | true => rw [h2 hfn]; simp; omega
/-- A walk back to the node to begin with. -/
structure Bk (E : Nat → Nat → Bool) (n s T : Nat) (cd : Nat → Nat) (v cb : Nat) (rest : List Nat) : Prop where
  walk : Wl E n v rest T
  num : cod n cb rest = cd T
  ne : rest ≠ []
  hv : v < n
  first : v = s → cb = s + 1
  next : v ≠ s → cb = cd v ∧ cb ≠ 0
  len : rest.length ≤ Pop.cnt (fun x => decide (cb < cd x)) n
theorem Bk.start {E : Nat → Nat → Bool} {n s T : Nat} {cd bf : Nat → Nat} {u cu t : Nat} {Q : List (Nat × Nat)} (h : Bfs E n s cd bf u cu t Q) (hT : cd T ≠ 0) : ∃ cb, Bk E n s T cd (bf T) cb [T] := by
  obtain ⟨h1, cb, h2, h3, h4, h5, h6⟩ := h.from' T hT
  have := Nat.le_mul_of_pos_right cb (show 0 < n + 1 by omega)
  refine ⟨cb, ⟨h3, h1, rfl⟩, h2.symm, by simp, h4, h5, h6, ?_⟩
  have := cnt_more (fun _ => false) (fun x => decide (cb < cd x)) T n h1 (fun k _ h => by cases h) rfl (by simp; omega)
  show 1 ≤ _
  omega
theorem Bk.step {E : Nat → Nat → Bool} {n s T : Nat} {cd bf : Nat → Nat} {u cu t : Nat} {Q : List (Nat × Nat)} (h : Bfs E n s cd bf u cu t Q) {v cb : Nat} {rest : List Nat} (hb : Bk E n s T cd v cb rest) (hne : v ≠ s) : ∃ cb', cb' < cb ∧ Bk E n s T cd (bf v) cb' (v :: rest) := by
  obtain ⟨k1, k2⟩ := hb.next hne
  obtain ⟨h1, cb', h2, h3, h4, h5, h6⟩ := h.from' v (by omega)
  have := Nat.le_mul_of_pos_right cb' (show 0 < n + 1 by omega)
  refine ⟨cb', by omega, ⟨h3, h1, hb.walk⟩, ?_, by simp, h4, h5, h6, ?_⟩
  · rw [cod_cons, ← h2, ← k1]
    exact hb.num
  · have := cnt_more (fun x => decide (cb < cd x)) (fun x => decide (cb' < cd x)) v n h1 (fun k _ h => by simp at h ⊢; omega) (by simp; omega) (by simp; omega)
    have := hb.len
    show rest.length + 1 ≤ _
    omega
theorem Bk.short {E : Nat → Nat → Bool} {n s T : Nat} {cd : Nat → Nat} {v cb : Nat} {rest : List Nat} (h : Bk E n s T cd v cb rest) : rest.length ≤ n := Nat.le_trans h.len (Pop.cnt_le _ _)
theorem Bk.best {E : Nat → Nat → Bool} {n s T : Nat} {cd bf : Nat → Nat} {u cu t : Nat} {Q : List (Nat × Nat)} (h : Bfs E n s cd bf u cu t Q) (hT : cd T ≠ 0) {cb : Nat} {rest : List Nat} (hb : Bk E n s T cd s cb rest) : Best E n s T rest := by
  refine ⟨hb.ne, hb.walk, fun q hq hw => ?_⟩
  have e := hb.num
  rw [hb.first rfl] at e
  rw [e]
  exact h.least T hT q hq hw
/-- What Shortest answers. -/
def IsShort (E : Nat → Nat → Bool) (n s : Nat) (to' : Int) (B : Nat) (w : World) (v : Value) : Prop :=
  (∃ (T : Nat) (r : List Nat), to' = T ∧ T < n ∧ Best E n s T r ∧ r.length ≤ n ∧ Ints B w v (s :: r)) ∨ (v = .slice none 0 0 ∧ ∀ T : Nat, to' = T → ∀ r, r ≠ [] → ¬ Wl E n s r T)
end Go.Proofs.YtdihbeffomibeaaGreatDoor
