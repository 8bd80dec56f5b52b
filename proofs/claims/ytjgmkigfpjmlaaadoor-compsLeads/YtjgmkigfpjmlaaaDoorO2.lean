/-
  entering: how many edges lead to each node.
-/
import Derived.Test.YtjgmkigfpjmlaaaDoorO1
namespace Go.Proofs.YtjgmkigfpjmlaaaDoor
set_option linter.unusedVariables false
set_option linter.unusedSimpArgs false
open Go.RowKit

/-- Counts while the edges of nodes below k, and those of k that end below t, are in. -/
def cin (E : Nat → Nat → Bool) (k t v : Nat) : Nat := Pop.cnt (fun u => E u v) k + (if v < t ∧ E k v = true then 1 else 0)
theorem cin_le (E : Nat → Nat → Bool) (k t v : Nat) : cin E k t v ≤ k + 1 := by
  unfold cin
  have := Pop.cnt_le (fun u => E u v) k
  split <;> omega
theorem cin_zero (E : Nat → Nat → Bool) (k v : Nat) : cin E k 0 v = Pop.cnt (fun u => E u v) k := by
  unfold cin
  rw [if_neg (by omega)]
  rfl
theorem cin_next (E : Nat → Nat → Bool) (n k t v : Nat) (hv : v < n) (ht : t ≤ n) (hgap : ∀ x, t ≤ x → x < n → E k x = false) : cin E k t v = cin E (k + 1) 0 v := by
  rw [cin_zero]
  unfold cin
  simp only [Pop.cnt]
  congr 1
  by_cases h1 : v < t
  · cases hE : E k v <;> simp [h1]
  · rw [if_neg (fun c => h1 c.1), hgap v (by omega) hv]
    rfl
theorem cin_step (E : Nat → Nat → Bool) (k t m v : Nat) (htm : t ≤ m) (hE : E k m = true) (hgap : ∀ x, t ≤ x → x < m → E k x = false) : (if v = m then ((cin E k t m : Nat) : Int) + 1 else ((cin E k t v : Nat) : Int)) = ((cin E k (m + 1) v : Nat) : Int) := by
  by_cases e : v = m
  · subst e
    rw [if_pos rfl]
    unfold cin
    rw [if_neg (by omega), if_pos ⟨by omega, hE⟩]
    omega
  · rw [if_neg e]
    congr 1
    unfold cin
    congr 1
    by_cases h1 : v < t
    · have h2 : v < m + 1 := by omega
      simp [h1, h2]
    · by_cases h2 : v < m + 1
      · rw [if_neg (fun c => h1 c.1), if_neg]
        rintro ⟨_, h3⟩
        rw [hgap v (by omega) (by omega)] at h3
        cases h3
      · rw [if_neg (fun c => h1 c.1), if_neg (fun c => h2 c.1)]

set_option maxHeartbeats 8000000 in
set_option maxRecDepth 100000 in
theorem entering_is (b n r : Nat) (bk ck : Nat → Nat) (L : Nat → Nat → Nat) (labels : Int) (w : World) (h : Graph w b n r bk ck L) (hT : Tab w) :
    Calls Tryd.prog 33 #[.pointer (some ⟨b, 0, none⟩), .int .i64 labels] w fun e w' => e = .returned (.slice (some ⟨w.heap.size, 0, none⟩) n n) ∧ Lay1 w' w.heap.size n n (fun v => ((cin (edge L labels) n 0 v : Nat) : Int)) ∧ Below w.heap.size w w' := by
  have hmk := run_make_row' (P := Tryd.prog) 29 3 (.int .i64 0) 8 Tryd.underlying29 Tryd.info3 rfl .i64 .i64 n (by have := h.bound; omega) (by have := h.bound; omega)
  rw [made_ints] at hmk
  have G0 := hid h
  have T0 := hid hT
  have hn3 := h.bound
  have hni : (n : Int) ≤ 300 := by omega
  have hn0 : (0 : Int) ≤ n := by omega
  have N0 := hid (nodes_is b n w h.c0 h.c1)
  clear h hT
  go_enter Tryd.func33, Tryd.ntmps33
  go_wp2_with fail
  go_at_call 26
  refine N0.out.mono ?_
  rintro e w' ⟨rfl, rfl⟩
  go_wp2_with fail
  clear hmk
  have B0 : Hid (Below w.heap.size w (w.alloc (.cells (Array.replicate n (.int .i64 0)) 3))) := below_box _ _
  have L0 : Hid (Lay1 (w.alloc (.cells (Array.replicate n (.int .i64 0)) 3)) w.heap.size n n (fun v => ((cin (edge L labels) 0 0 v : Nat) : Int))) := ⟨_, heap_alloc_new w _, ⟨by simp, Nat.le_refl _⟩, fun j hj => by simp [hj, cin_zero, Pop.cnt]⟩
  go_loopg [14] n (fun g i wr => ∃ k : Nat, k ≤ n ∧ n - k ≤ g ∧ i = .int .i64 k ∧ Aside (Lay1 wr w.heap.size n n (fun v => ((cin (edge L labels) k 0 v : Nat) : Int))) ∧ Aside (Below w.heap.size w wr))
  case atStart => exact ⟨0, Nat.zero_le _, by omega, rfl, L0.out, B0.out⟩
  case round =>
    clear L0 B0
    obtain ⟨k, hk, hg, rfl, LX, BX⟩ := hrel
    by_cases hkn : k < n
    · have hkni : (k : Int) < n := by omega
      go_wp2_with fail
      go_at_call 25
      refine (out_ok b n r k bk ck L labels wr (G0.out.later BX.out) hkn (T0.out.later BX.out)).mono ?_
      rintro e w4 ⟨⟨v4, rfl, i4⟩, b4⟩
      have OBL : Hid (w.heap.size < wr.heap.size) := by obtain ⟨cur, h1, _⟩ := LX.out; exact blt h1
      obtain ⟨ao, cap, o, rfl, ro, hoo⟩ := i4.rowO (HQ := w.heap.size + 1) OBL.out
      have RO := hid ro
      have L4 := hid (LX.out.later b4)
      have B4 := hid (BX.out.trans (b4.mono BX.out.size))
      have hll := lst_le (endsF L k labels 4) n
      have hlli : ((lst (endsF L k labels 4) n).length : Int) ≤ 300 := by omega
      clear i4 ro hoo b4 LX BX
      go_wp2_with fail
      go_loopg [22] (lst (endsF L k labels 4) n).length (fun g2 i wr => ∃ (j t : Nat), j ≤ (lst (endsF L k labels 4) n).length ∧ (lst (endsF L k labels 4) n).length - j ≤ g2 ∧ i = .int .i64 j ∧ t ≤ n ∧ Aside (lst (endsF L k labels 4) t = (lst (endsF L k labels 4) n).take j) ∧ Aside (Lay1 wr w.heap.size n n (fun v => ((cin (edge L labels) k t v : Nat) : Int))) ∧ Aside (RowO (w.heap.size + 1) wr ao o (lst (endsF L k labels 4) n)) ∧ Aside (Below w.heap.size w wr))
      case atStart => exact ⟨0, 0, Nat.zero_le _, by omega, rfl, Nat.zero_le _, by show lst _ 0 = List.take 0 _; simp [lst], L4.out, RO.out, B4.out⟩
      case round =>
        clear L4 RO B4
        obtain ⟨j, t, hj, hg2, rfl, htn, LT, LX, RX, BX⟩ := hrel
        by_cases hjl : j < (lst (endsF L k labels 4) n).length
        · have hjli : (j : Int) < (lst (endsF L k labels 4) n).length := by omega
          obtain ⟨rfl, hHQ, cur, hcur, hcj⟩ := RX.out j hjl
          have cj : wr.cell? ⟨o, j, none⟩ = some (.int .i64 ((lst (endsF L k labels 4) n).getD j 0)) := (Lib.cell_of_heap hcur j).trans hcj
          obtain ⟨m1, m2, m3, m4, m5⟩ := lst_next (endsF L k labels 4) n t j htn LT.out hjl
          generalize (lst (endsF L k labels 4) n).getD j 0 = m at *
          obtain ⟨cm, fm⟩ := LX.out.cell m m2
          have hmi : (m : Int) < n := by omega
          have hci := cin_le (edge L labels) k t m
          have hcii : ((cin (edge L labels) k t m : Nat) : Int) ≤ 302 := by omega
          have M5 := hid m5
          have LN : Hid (Lay1 (wr.setCell ⟨w.heap.size, m, none⟩ (.int .i64 (((cin (edge L labels) k t m : Nat) : Int) + 1))) w.heap.size n n (fun v => ((cin (edge L labels) k (m + 1) v : Nat) : Int))) := (LX.out.put m _ m2).congr (fun x hx => cin_step (edge L labels) k t m x m1 m3 m4)
          have RN : Hid (RowO (w.heap.size + 1) (wr.setCell ⟨w.heap.size, m, none⟩ (.int .i64 (((cin (edge L labels) k t m : Nat) : Int) + 1))) (some ⟨o, 0, none⟩) o (lst (endsF L k labels 4) n)) := RX.out.keep fun h0 cs hcs => (Below.heap_setCell _ _ _ _ (show o ≠ w.heap.size by omega)).trans hcs
          have BN : Hid (Below w.heap.size w (wr.setCell ⟨w.heap.size, m, none⟩ (.int .i64 (((cin (edge L labels) k t m : Nat) : Int) + 1)))) := BX.out.setCell (Nat.le_refl _) _
          clear m1 m3 m4 m5 hcur hcj LT LX RX BX
          generalize cin (edge L labels) k t m = c at *
          go_wp2_with fail
          go_roundg ((lst (endsF L k labels 4) n).length - (j + 1))
          · exact ⟨j + 1, m + 1, by omega, by omega, by go_num, by omega, M5.out, LN.out, RN.out, BN.out⟩
          · omega
        · have hjli : ¬ (j : Int) < (lst (endsF L k labels 4) n).length := by omega
          have LN : Hid (Lay1 wr w.heap.size n n (fun v => ((cin (edge L labels) (k + 1) 0 v : Nat) : Int))) := LX.out.congr (fun x hx => by rw [cin_next (edge L labels) n k t x hx htn (lst_end (endsF L k labels 4) n t j htn LT.out hjl)])
          clear LX RX LT
          go_wp2_with fail
          go_roundg (n - (k + 1))
          · exact ⟨k + 1, by omega, by omega, by go_num, LN.out, BX.out⟩
          · omega
    · have hkni : ¬ (k : Int) < n := by omega
      obtain rfl : n = k := by omega
      go_wp2_with fail
      go_ret
      exact ⟨rfl, LX.out, BX.out⟩
end Go.Proofs.YtjgmkigfpjmlaaaDoor
