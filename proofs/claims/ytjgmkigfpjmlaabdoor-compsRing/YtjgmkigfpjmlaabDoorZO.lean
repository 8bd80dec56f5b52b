/-
  entering: how many edges lead to each node.
-/
import Derived.Test.YtjgmkigfpjmlaabDoorZH
namespace Go.Proofs.YtjgmkigfpjmlaabDoor
set_option linter.unusedVariables false
set_option linter.unusedSimpArgs false
open Go.RowKit

/-- Counts while the edges of nodes below k, and those of k that end below t, are in. -/
def cin (E : Nat → Nat → Bool) (k t v : Nat) : Nat := Pop.cnt (fun u => E u v) k + (if v < t ∧ E k v = true then 1 else 0)
theorem cin_le (E : Nat → Nat → Bool) (k t v : Nat) : cin E k t v ≤ k + 1 := by
  unfold cin
  have := Pop.cnt_le (fun u => E u v) k
  split <;> omega
theorem cin_zero (E : Nat → Nat → Bool) (k v : Nat) : cin E k 0 v = Pop.cnt (fun u => E u v) k := by
  unfold cin
  rw [if_neg (by omega)]
  rfl
theorem cin_next (E : Nat → Nat → Bool) (n k t v : Nat) (hv : v < n) (ht : t ≤ n) (hgap : ∀ x, t ≤ x → x < n → E k x = false) : cin E k t v = cin E (k + 1) 0 v := by
  rw [cin_zero]
  unfold cin
  simp only [Pop.cnt]
  congr 1
  by_cases h1 : v < t
  · cases hE : E k v <;> simp [h1]
  · rw [if_neg (fun c => h1 c.1), hgap v (by omega) hv]
    rfl
theorem cin_step (E : Nat → Nat → Bool) (k t m v : Nat) (htm : t ≤ m) (hE : E k m = true) (hgap : ∀ x, t ≤ x → x < m → E k x = false) : (if v = m then ((cin E k t m : Nat) : Int) + 1 else ((cin E k t v : Nat) : Int)) = ((cin E k (m + 1) v : Nat) : Int) := by
  by_cases e : v = m
  · subst e
    rw [if_pos rfl]
    unfold cin
    rw [if_neg (by omega), if_pos ⟨by omega, hE⟩]
    omega
  · rw [if_neg e]
    congr 1
    unfold cin
    congr 1
    by_cases h1 : v < t
    · have h2 : v < m + 1 := by omega
      simp [h1, h2]
    · by_cases h2 : v < m + 1
      · rw [if_neg (fun c => h1 c.1), if_neg]
        rintro ⟨_, h3⟩
        rw [hgap v (by omega) (by omega)] at h3
        cases h3
      · rw [if_neg (fun c => h1 c.1), if_neg (fun c => h2 c.1)]

set_option maxHeartbeats 8000000 in
set_option maxRecDepth 100000 in
theorem entering_is (b n r : Nat) (bk ck : Nat → Nat) (L : Nat → Nat → Nat) (labels : Int) (w : World) (h : Graph w b n r bk ck L) (hT : Tab w) :
    Calls Tryd.prog 33 #[.pointer (some ⟨b, 0, none⟩), .int .i64 labels] w fun e w' => e = .returned (.slice (some ⟨w.heap.size, 0, none⟩) n n) ∧ Lay1 w' w.heap.size n n (fun v => ((cin (edge L labels) n 0 v : Nat) : Int)) ∧ Below w.heap.size w w' := by
  have hmk := run_make_row' (P := Tryd.prog) 28 3 (.int .i64 0) 8 Tryd.underlying28 Tryd.info3 rfl .i64 .i64 n (by have := h.bound; omega) (by have := h.bound; omega)
  rw [made_ints] at hmk
  have G0 := hid h
  have T0 := hid hT
  have hn3 := h.bound
  have hni : (n : Int) ≤ 300 := by omega
  have hn0 : (0 : Int) ≤ n := by omega
  have N0 := hid (nodes_is b n w h.c0 h.c1)
  clear h hT
  go_enter Tryd.func33, Tryd.ntmps33
  go_wp2_with fail
  go_at_call 37
  refine N0.out.mono ?_
  rintro e w' ⟨rfl, rfl⟩
  go_wp2_with fail
  clear hmk
  have B0 : Hid (Below w.heap.size w (w.alloc (.cells (Array.replicate n (.int .i64 0)) 3))) := below_box _ _
  have L0 : Hid (Lay1 (w.alloc (.cells (Array.replicate n (.int .i64 0)) 3)) w.heap.size n n (fun v => ((cin (edge L labels) 0 0 v : Nat) : Int))) := ⟨_, heap_alloc_new w _, ⟨by simp, Nat.le_refl _⟩, fun j hj => by simp [hj, cin_zero, Pop.cnt]⟩
  go_loopg [14] n (fun g i wr => ∃ k : Nat, k ≤ n ∧ n - k ≤ g ∧ i = .int .i64 k ∧ Aside (Lay1 wr w.heap.size n n (fun v => ((cin (edge L labels) k 0 v : Nat) : Int))) ∧ Aside (Below w.heap.size w wr))
  case atStart => exact ⟨0, Nat.zero_le _, by omega, rfl, L0.out, B0.out⟩
  case round =>
    clear L0 B0
    obtain ⟨k, hk, hg, rfl, LX, BX⟩ := hrel
    by_cases hkn : k < n
    · have hkni : (k : Int) < n := by omega
      go_wp2_with fail
      go_at_call 35
      refine (out_ok b n r k bk ck L labels wr (G0.out.later BX.out) hkn (T0.out.later BX.out)).mono ?_
      rintro e w4 ⟨⟨v4, rfl, i4⟩, b4⟩
      have OBL : Hid (w.heap.size < wr.heap.size) := by obtain ⟨cur, h1, _⟩ := LX.out; exact blt h1
      obtain ⟨ao, cap, o, rfl, ro, hoo⟩ := i4.rowO (HQ := w.heap.size + 1) OBL.out
      have RO := hid ro
      have L4 := hid (LX.out.later b4)
      have B4 := hid (BX.out.trans (b4.mono BX.out.size))
      have hll := lst_le (endsF L k labels 4) n
      have hlli : ((lst (endsF L k labels 4) n).length : Int) ≤ 300 := by omega
      clear i4 ro hoo b4 LX BX
      go_wp2_with fail
      go_loopg [22] (lst (endsF L k labels 4) n).length (fun g2 i wr => ∃ (j t : Nat), j ≤ (lst (endsF L k labels 4) n).length ∧ (lst (endsF L k labels 4) n).length - j ≤ g2 ∧ i = .int .i64 j ∧ t ≤ n ∧ Aside (lst (endsF L k labels 4) t = (lst (endsF L k labels 4) n).take j) ∧ Aside (Lay1 wr w.heap.size n n (fun v => ((cin (edge L labels) k t v : Nat) : Int))) ∧ Aside (RowO (w.heap.size + 1) wr ao o (lst (endsF L k labels 4) n)) ∧ Aside (Below w.heap.size w wr))
      case atStart => exact ⟨0, 0, Nat.zero_le _, by omega, rfl, Nat.zero_le _, by show lst _ 0 = List.take 0 _; simp [lst], L4.out, RO.out, B4.out⟩
      case round =>
        clear L4 RO B4
        obtain ⟨j, t, hj, hg2, rfl, htn, LT, LX, RX, BX⟩ := hrel
        by_cases hjl : j < (lst (endsF L k labels 4) n).length
        · have hjli : (j : Int) < (lst (endsF L k labels 4) n).length := by omega
          obtain ⟨rfl, hHQ, cur, hcur, hcj⟩ := RX.out j hjl
          have cj : wr.cell? ⟨o, j, none⟩ = some (.int .i64 ((lst (endsF L k labels 4) n).getD j 0)) := (Lib.cell_of_heap hcur j).trans hcj
          obtain ⟨m1, m2, m3, m4, m5⟩ := lst_next (endsF L k labels 4) n t j htn LT.out hjl
          generalize (lst (endsF L k labels 4) n).getD j 0 = m at *
          obtain ⟨cm, fm⟩ := LX.out.cell m m2
          have hmi : (m : Int) < n := by omega
          have hci := cin_le (edge L labels) k t m
          have hcii : ((cin (edge L labels) k t m : Nat) : Int) ≤ 302 := by omega
          have M5 := hid m5
          have LN : Hid (Lay1 (wr.setCell ⟨w.heap.size, m, none⟩ (.int .i64 (((cin (edge L labels) k t m : Nat) : Int) + 1))) w.heap.size n n (fun v => ((cin (edge L labels) k (m + 1) v : Nat) : Int))) := (LX.out.put m _ m2).congr (fun x hx => cin_step (edge L labels) k t m x m1 m3 m4)
          have RN : Hid (RowO (w.heap.size + 1) (wr.setCell ⟨w.heap.size, m, none⟩ (.int .i64 (((cin (edge L labels) k t m : Nat) : Int) + 1))) (some ⟨o, 0, none⟩) o (lst (endsF L k labels 4) n)) := RX.out.keep fun h0 cs hcs => (Below.heap_setCell _ _ _ _ (show o ≠ w.heap.size by omega)).trans hcs
          have BN : Hid (Below w.heap.size w (wr.setCell ⟨w.heap.size, m, none⟩ (.int .i64 (((cin (edge L labels) k t m : Nat) : Int) + 1)))) := BX.out.setCell (Nat.le_refl _) _
          clear m1 m3 m4 m5 hcur hcj LT LX RX BX
          generalize cin (edge L labels) k t m = c at *
          go_wp2_with fail
          go_roundg ((lst (endsF L k labels 4) n).length - (j + 1))
          · exact ⟨j + 1, m + 1, by omega, by omega, by go_num, by omega, M5.out, LN.out, RN.out, BN.out⟩
          · omega
        · have hjli : ¬ (j : Int) < (lst (endsF L k labels 4) n).length := by omega
          have LN : Hid (Lay1 wr w.heap.size n n (fun v => ((cin (edge L labels) (k + 1) 0 v : Nat) : Int))) := LX.out.congr (fun x hx => by rw [cin_next (edge L labels) n k t x hx htn (lst_end (endsF L k labels 4) n t j htn LT.out hjl)])
          clear LX RX LT
          go_wp2_with fail
          go_roundg (n - (k + 1))
          · exact ⟨k + 1, by omega, by omega, by go_num, LN.out, BX.out⟩
          · omega
    · have hkni : ¬ (k : Int) < n := by omega
      obtain rfl : n = k := by omega
      go_wp2_with fail
      go_ret
      exact ⟨rfl, LX.out, BX.out⟩
end Go.Proofs.YtjgmkigfpjmlaabDoor

/-
  Plain: the counts while an order is made.
-/
namespace Go.Proofs.YtjgmkigfpjmlaabDoor
set_option linter.unusedVariables false
set_option linter.unusedSimpArgs false

/-- How many edges lead to a node from nodes that are not placed; -1 of one that is. -/
def cl (E : Nat → Nat → Bool) (n : Nat) (l : List Nat) (v : Nat) : Int := if v ∈ l then -1 else ((Pop.cnt (fun u => !(l.contains u) && E u v) n : Nat) : Int)
/-- The same while k is placed and the ends below t of its edges are done. -/
def cm (E : Nat → Nat → Bool) (n : Nat) (l : List Nat) (k t v : Nat) : Int := if v ∈ l ++ [k] then -1 else ((Pop.cnt (fun u => !(l.contains u) && E u v) n : Nat) : Int) - (if v < t ∧ E k v = true then 1 else 0)
theorem cnt_pos (f : Nat → Bool) (n : Nat) : Pop.cnt f n = 0 ↔ ∀ u, u < n → f u = false := by
  induction n with
  | zero => exact ⟨fun _ u hu => by omega, fun _ => rfl⟩
  | succ n ih =>
    show Pop.cnt f n + (f n).toNat = 0 ↔ _
    constructor
    · intro h u hu
      by_cases e : u = n
      · subst e
        cases hf : f u with
        | false => rfl
        | true => rw [hf] at h; simp at h
      · exact (ih.1 (by omega)) u (by omega)
    · intro h
      rw [ih.2 (fun u hu => h u (by omega)), h n (by omega)]
      rfl
theorem cl_nil (E : Nat → Nat → Bool) (n v : Nat) : cl E n [] v = ((Pop.cnt (fun u => E u v) n : Nat) : Int) := by
  unfold cl
  rw [if_neg (by simp)]
  simp
theorem cl_free {E : Nat → Nat → Bool} {n : Nat} {l : List Nat} {v : Nat} (hv : v < n) : cl E n l v = 0 ↔ Free E n l v := by
  unfold cl Free
  by_cases h : v ∈ l
  · rw [if_pos h]
    exact ⟨fun h => by omega, fun h2 => absurd h h2.2.1⟩
  · rw [if_neg h]
    have e : (((Pop.cnt (fun u => !(l.contains u) && E u v) n : Nat) : Int) = 0) ↔ (Pop.cnt (fun u => !(l.contains u) && E u v) n = 0) := by omega
    rw [e, cnt_pos]
    constructor
    · intro hc
      refine ⟨hv, h, fun m hm hml => ?_⟩
      have := hc m hm
      simpa [hml] using this
    · rintro ⟨_, _, hc⟩ u hu
      by_cases hul : u ∈ l
      · simp [hul]
      · simp [hc u hu hul]
theorem cl_range (E : Nat → Nat → Bool) (n : Nat) (l : List Nat) (v : Nat) : -1 ≤ cl E n l v ∧ cl E n l v ≤ n := by
  unfold cl
  split
  · omega
  · have := Pop.cnt_le (fun u => !(l.contains u) && E u v) n
    omega
theorem cm_range (E : Nat → Nat → Bool) (n : Nat) (l : List Nat) (k t v : Nat) : -1 ≤ cm E n l k t v ∧ cm E n l k t v ≤ n := by
  unfold cm
  split
  · omega
  · have := Pop.cnt_le (fun u => !(l.contains u) && E u v) n
    split <;> omega
theorem cm_first {E : Nat → Nat → Bool} {n : Nat} {l : List Nat} {k : Nat} (v : Nat) : (if v = k then -1 else cl E n l v) = cm E n l k 0 v := by
  unfold cm cl
  by_cases e : v = k
  · subst e
    rw [if_pos rfl, if_pos (by simp)]
  · rw [if_neg e]
    by_cases h : v ∈ l
    · rw [if_pos h, if_pos (by simp [h])]
    · rw [if_neg h, if_neg (by simp [h, e]), if_neg (by omega)]
      omega
theorem Beg.out {E : Nat → Nat → Bool} {n : Nat} {l : List Nat} {k m : Nat} (h : Beg E n l) (hk : Free E n l k) (he : E k m = true) : m ∉ l ++ [k] := by
  intro hm
  rcases List.mem_append.1 hm with hm | hm
  · obtain ⟨j, hj, rfl⟩ := List.getElem_of_mem hm
    obtain ⟨i, hi, e⟩ := h.leads j hj k hk.1 (by simpa [List.getD, hj] using he)
    apply hk.2.1
    rw [← e]
    simp only [List.getD, List.getElem?_eq_getElem (show i < l.length from by omega), Option.getD_some]
    exact List.getElem_mem _
  · have e : m = k := by simpa using hm
    subst e
    rw [hk.2.2 m hk.1 hk.2.1] at he
    cases he
theorem cm_step {E : Nat → Nat → Bool} {n : Nat} {l : List Nat} {k t m : Nat} (h : Beg E n l) (hk : Free E n l k) (htm : t ≤ m) (he : E k m = true) (hgap : ∀ x, t ≤ x → x < m → E k x = false) (v : Nat) : (if v = m then cm E n l k t m - 1 else cm E n l k t v) = cm E n l k (m + 1) v := by
  have hm := h.out hk he
  by_cases e : v = m
  · subst e
    rw [if_pos rfl]
    unfold cm
    rw [if_neg hm, if_neg (by omega), if_neg hm, if_pos ⟨by omega, he⟩]
    omega
  · rw [if_neg e]
    unfold cm
    by_cases hv : v ∈ l ++ [k]
    · rw [if_pos hv, if_pos hv]
    · rw [if_neg hv, if_neg hv]
      congr 1
      by_cases h1 : v < t
      · have h2 : v < m + 1 := by omega
        simp [h1, h2]
      · by_cases h2 : v < m + 1
        · rw [if_neg (fun c => h1 c.1), if_neg]
          rintro ⟨_, h3⟩
          rw [hgap v (by omega) (by omega)] at h3
          cases h3
        · rw [if_neg (fun c => h1 c.1), if_neg (fun c => h2 c.1)]
theorem cm_last {E : Nat → Nat → Bool} {n : Nat} {l : List Nat} {k t : Nat} (hk : Free E n l k) (ht : t ≤ n) (hgap : ∀ x, t ≤ x → x < n → E k x = false) (v : Nat) (hv : v < n) : cm E n l k t v = cl E n (l ++ [k]) v := by
  unfold cm cl
  by_cases hm : v ∈ l ++ [k]
  · rw [if_pos hm, if_pos hm]
  · rw [if_neg hm, if_neg hm]
    have h1 := cnt_drop (fun u => !(l.contains u) && E u v) k n hk.1
    have e1 : (fun j => !(j == k) && (!(l.contains j) && E j v)) = fun u => !((l ++ [k]).contains u) && E u v := by
      funext u
      by_cases e : u = k
      · subst e; simp
      · simp [e]
    rw [e1] at h1
    have e2 : (!(l.contains k) && E k v) = E k v := by simp [hk.2.1]
    rw [e2] at h1
    cases he : E k v with
    | true =>
      rw [he] at h1
      have hvt : v < t := Classical.byContradiction fun hc => by
        rw [hgap v (by omega) hv] at he
        cases he
      rw [if_pos ⟨hvt, rfl⟩]
      change _ + 1 = _ at h1
      omega
    | false =>
      rw [he] at h1
      rw [if_neg (fun c => by cases c.2)]
      change _ + 0 = _ at h1
      omega
end Go.Proofs.YtjgmkigfpjmlaabDoor

/-
  Order.
-/
namespace Go.Proofs.YtjgmkigfpjmlaabDoor
set_option linter.unusedVariables false
set_option linter.unusedSimpArgs false
open Go.RowKit

theorem cMade (b n r : Nat) (bk ck : Nat → Nat) (L : Nat → Nat → Nat) (w : World) (h : Graph w b n r bk ck L) : Calls Tryd.prog 32 #[.pointer (some ⟨b, 0, none⟩)] w fun e w' => e = .returned (.bool true) ∧ w = w' := by
  have hy : addWhy n (-1) (-1) 0 = 60 := by unfold addWhy; rw [if_pos (by left; left; decide)]
  have A := hid (gadd_no b n r bk ck L (-1) (-1) 0 w h (by rw [hy]; decide))
  rw [hy] at A
  clear h hy
  go_enter Tryd.func32, Tryd.ntmps32
  go_wp2_with fail
  go_at_call 10
  refine A.out.mono ?_
  rintro e w' ⟨rfl, rfl⟩
  go_wp2_with fail
  go_ret
  exact ⟨rfl, rfl⟩
theorem Ints.set {B : Nat} {w : World} {v : Value} {l : List Nat} (h : Ints B w v l) (g i : Nat) (x : Value) (hg : g < B) : Ints B (w.setCell ⟨g, i, none⟩ x) v l := by
  refine World.ownsRow.kept (row := some g) h ⟨rfl, rfl, rfl, by simp, fun k hk hn => Below.heap_setCell _ _ _ k (fun e => hn (by rw [e]))⟩ ?_
  cases hq : v.ownBlock with
  | none => exact .inl rfl
  | some g' => exact .inr (by have := (h.lt g' hq).1; intro e; injection e with e; omega)
theorem pk_of {E : Nat → Nat → Bool} {n : Nat} {l : List Nat} {r : Int} (h : IsIndex n (cl E n l) 0 r) : (∃ k : Nat, r = k ∧ k < n ∧ Pk E n l k) ∨ (r = -1 ∧ ∀ v, ¬ Free E n l v) := by
  rcases h with ⟨k, h1, h2, h3, h4⟩ | ⟨h1, h2⟩
  · exact .inl ⟨k, h1, h2, (cl_free h2).1 h3, fun x hx hf => h4 x hx ((cl_free hf.1).2 hf)⟩
  · exact .inr ⟨h1, fun v hf => h2 v hf.1 ((cl_free hf.1).2 hf)⟩
theorem edge_ends (L : Nat → Nat → Nat) (labels : Int) (k : Nat) : endsF L k labels 4 = edge L labels k := rfl

set_option maxHeartbeats 8000000 in
set_option maxRecDepth 100000 in
theorem order_is (b n r : Nat) (bk ck : Nat → Nat) (L : Nat → Nat → Nat) (labels : Int) (w : World) (h : Graph w b n r bk ck L) (hT : Tab w) :
    Calls Tryd.prog 11 #[.pointer (some ⟨b, 0, none⟩), .int .i64 labels] w fun e w' => (∃ v l ok, e = .returned (.tuple #[v, .bool ok]) ∧ Ints w.heap.size w' v l ∧ IsOrder (edge L labels) n l ok) ∧ Below w.heap.size w w' := by
  obtain ⟨i0, hi, hz'⟩ := Option.map_eq_some_iff.1 Tryd.info3i
  simp only [Prod.mk.injEq] at hz'
  obtain ⟨hz0, hz1, hz2⟩ := hz'
  have hn3 := h.bound
  have hmk : ∀ W : World, (Instr.makeSlice 28 (.int .i64 0) (.int .i64 (n : Nat))).run Tryd.prog W = .ok (.slice (some ⟨W.heap.size, 0, none⟩) 0 n) (W.alloc (.cells (madeCells #[.int .i64 0] n) 3)) := fun W => by
    have := run_make (P := Tryd.prog) W 28 3 i0 (.int .i64 0) Tryd.underlying28 hi hz0 .i64 .i64 0 (n : Nat) (by omega) (by omega) (by rw [hz2]; omega) (by omega)
    simpa [hz1, Value.cells] using this
  clear hi hz0 hz1 hz2
  have PM := hid (cMade b n r bk ck L w h)
  have EN := hid (entering_is b n r bk ck L labels w h hT)
  have G0 := hid h
  have T0 := hid hT
  have hni : (n : Int) ≤ 300 := by omega
  have hn0 : (0 : Int) ≤ n := by omega
  clear h hT
  go_enter Tryd.func11, Tryd.ntmps11
  go_wp2_with (go_at_call 32; refine PM.out.mono ?_; rintro e w' ⟨rfl, rfl⟩)
  go_at_call 33
  refine EN.out.mono ?_
  rintro e w1 ⟨rfl, l1, b1⟩
  have HLT : Hid (w.heap.size < w1.heap.size) := by obtain ⟨cur, h1, _⟩ := l1; exact blt h1
  have L1 := hid (l1.congr (f' := cl (edge L labels) n []) (fun v hv => by rw [cl_nil, cin_zero]))
  have B1 := hid b1
  clear l1 b1 PM EN
  go_wp2_with fail
  have O0 : Hid (Ints w1.heap.size (w1.alloc (.cells (madeCells #[.int .i64 0] n) 3)) (.slice (some ⟨w1.heap.size, 0, none⟩) 0 n) []) := World.ownsRow_made w1 _ _ (Nat.le_refl _) (by unfold maxLen; omega) (by rw [size_madeCells]; omega)
  have L2 := hid (L1.out.later (below_box w1 (.cells (madeCells #[.int .i64 0] n) 3)))
  have B2 : Hid (Below w.heap.size w (w1.alloc (.cells (madeCells #[.int .i64 0] n) 3))) := B1.out.trans ((below_box w1 _).mono B1.out.size)
  have Z2 : Hid (w1.heap.size ≤ (w1.alloc (.cells (madeCells #[.int .i64 0] n) 3)).heap.size) := by show _ ≤ _; simp
  clear hmk L1 B1
  generalize w1.alloc (.cells (madeCells #[.int .i64 0] n) 3) = W0 at *
  generalize w1.heap.size = H1 at *
  go_loopg [7, 22] n (fun g ov i wr => ∃ (l : List Nat), l.length ≤ n ∧ n - l.length ≤ g ∧ i = .int .i64 l.length ∧ Aside (Beg (edge L labels) n l) ∧ Aside (Lay1 wr w.heap.size n n (cl (edge L labels) n l)) ∧ Aside (Ints H1 wr ov l) ∧ Aside (Below w.heap.size w wr) ∧ Aside (H1 ≤ wr.heap.size))
  case atStart => exact ⟨[], Nat.zero_le _, by simp, rfl, Beg.nil _ _, L2.out, O0.out, B2.out, Z2.out⟩
  case round =>
    clear L2 O0 B2 Z2
    obtain ⟨l, hl, hg, rfl, BG, LX, OX, BX, ZX⟩ := hrel
    by_cases hlt : l.length < n
    · have hlti : (l.length : Int) < n := by omega
      obtain ⟨oa, oc, rfl⟩ := OX.out.form
      go_wp2_with fail
      go_at_call 34
      refine (index_is w.heap.size n n n (cl (edge L labels) n l) 0 wr LX.out (by omega)).mono ?_
      rintro e w' ⟨⟨ri, rfl, hix⟩, rfl⟩
      rcases pk_of hix with ⟨k, rfl, hk, hpk⟩ | ⟨rfl, hno⟩
      · clear hix
        have hki : (k : Int) < n := by omega
        have hk0 : ¬ (k : Int) < 0 := by omega
        obtain ⟨ck', fk'⟩ := LX.out.cell k hk
        have PK := hid hpk
        clear hpk
        have LN : Hid (Lay1 (wr.setCell ⟨w.heap.size, k, none⟩ (.int .i64 (-1))) w.heap.size n n (cm (edge L labels) n l k 0)) := (LX.out.put k (-1) hk).congr (fun v _ => cm_first v)
        have BN : Hid (Below w.heap.size w (wr.setCell ⟨w.heap.size, k, none⟩ (.int .i64 (-1)))) := BX.out.setCell (Nat.le_refl _) _
        have ON : Hid (Ints H1 (wr.setCell ⟨w.heap.size, k, none⟩ (.int .i64 (-1))) (.slice oa l.length oc) l) := OX.out.set _ _ _ HLT.out
        have ZN : Hid (H1 ≤ (wr.setCell ⟨w.heap.size, k, none⟩ (.int .i64 (-1))).heap.size) := by show _ ≤ _; simp; exact ZX.out
        clear LX BX OX ZX
        go_wp2_with fail
        generalize wr.setCell ⟨w.heap.size, k, none⟩ (.int .i64 (-1)) = W at *
        go_at_call 35
        refine (out_ok b n r k bk ck L labels W (G0.out.later BN.out) hk (T0.out.later BN.out)).mono ?_
        rintro e w4 ⟨⟨v4, rfl, i4⟩, b4⟩
        obtain ⟨ao, cap, o, rfl, ro, hoo⟩ := i4.rowO (HQ := W.heap.size) (Nat.le_refl _)
        have RO := hid ro
        have L4 := hid (LN.out.later b4)
        have B4 := hid (BN.out.trans (b4.mono BN.out.size))
        have O4 := hid (ON.out.later b4)
        have Z4 : Hid (H1 ≤ w4.heap.size) := Nat.le_trans ZN.out b4.size
        have HWL : w.heap.size < W.heap.size := by obtain ⟨c, h1, _⟩ := LN.out; exact blt h1
        have hll := lst_le (endsF L k labels 4) n
        have hlli : ((lst (endsF L k labels 4) n).length : Int) ≤ 300 := by omega
        clear i4 ro hoo b4 LN BN ON ZN
        go_wp2_with fail
        go_loopg [36] (lst (endsF L k labels 4) n).length (fun g2 i wr => ∃ (j t : Nat), j ≤ (lst (endsF L k labels 4) n).length ∧ (lst (endsF L k labels 4) n).length - j ≤ g2 ∧ i = .int .i64 j ∧ t ≤ n ∧ Aside (lst (endsF L k labels 4) t = (lst (endsF L k labels 4) n).take j) ∧ Aside (Lay1 wr w.heap.size n n (cm (edge L labels) n l k t)) ∧ Aside (RowO W.heap.size wr ao o (lst (endsF L k labels 4) n)) ∧ Aside (Below w.heap.size w wr) ∧ Aside (Ints H1 wr (.slice oa l.length oc) l) ∧ Aside (H1 ≤ wr.heap.size))
        case atStart => exact ⟨0, 0, Nat.zero_le _, by omega, rfl, Nat.zero_le _, by show lst _ 0 = List.take 0 _; simp [lst], L4.out, RO.out, B4.out, O4.out, Z4.out⟩
        case round =>
          clear L4 RO B4 O4 Z4
          obtain ⟨j, t, hj, hg2, rfl, htn, LT, LX, RX, BX, OX, ZX⟩ := hrel
          by_cases hjl : j < (lst (endsF L k labels 4) n).length
          · have hjli : (j : Int) < (lst (endsF L k labels 4) n).length := by omega
            obtain ⟨rfl, hHQ, cur, hcur, hcj⟩ := RX.out j hjl
            have cj : wr.cell? ⟨o, j, none⟩ = some (.int .i64 ((lst (endsF L k labels 4) n).getD j 0)) := (Lib.cell_of_heap hcur j).trans hcj
            obtain ⟨m1, m2, m3, m4, m5⟩ := lst_next (endsF L k labels 4) n t j htn LT.out hjl
            generalize (lst (endsF L k labels 4) n).getD j 0 = m at *
            obtain ⟨cm', fm'⟩ := LX.out.cell m m2
            have hmi : (m : Int) < n := by omega
            have hci := cm_range (edge L labels) n l k t m
            have M5 := hid m5
            have LN : Hid (Lay1 (wr.setCell ⟨w.heap.size, m, none⟩ (.int .i64 (cm (edge L labels) n l k t m - 1))) w.heap.size n n (cm (edge L labels) n l k (m + 1))) := (LX.out.put m _ m2).congr (fun x hx => cm_step BG.out PK.out.1 m1 m3 m4 x)
            have RN : Hid (RowO W.heap.size (wr.setCell ⟨w.heap.size, m, none⟩ (.int .i64 (cm (edge L labels) n l k t m - 1))) (some ⟨o, 0, none⟩) o (lst (endsF L k labels 4) n)) := RX.out.keep fun h0 cs hcs => (Below.heap_setCell _ _ _ _ (show o ≠ w.heap.size by omega)).trans hcs
            have BN : Hid (Below w.heap.size w (wr.setCell ⟨w.heap.size, m, none⟩ (.int .i64 (cm (edge L labels) n l k t m - 1)))) := BX.out.setCell (Nat.le_refl _) _
            have ON : Hid (Ints H1 (wr.setCell ⟨w.heap.size, m, none⟩ (.int .i64 (cm (edge L labels) n l k t m - 1))) (.slice oa l.length oc) l) := OX.out.set _ _ _ HLT.out
            have ZN : Hid (H1 ≤ (wr.setCell ⟨w.heap.size, m, none⟩ (.int .i64 (cm (edge L labels) n l k t m - 1))).heap.size) := by show _ ≤ _; simp; exact ZX.out
            clear m1 m3 m4 m5 hcur hcj LT LX RX BX OX ZX
            generalize cm (edge L labels) n l k t m = c at *
            have hc1 : -1 ≤ c := hci.1
            have hc2 : c ≤ 300 := by omega
            clear hci
            go_wp2_with fail
            go_roundg ((lst (endsF L k labels 4) n).length - (j + 1))
            · exact ⟨j + 1, m + 1, by omega, by omega, by go_num, by omega, M5.out, LN.out, RN.out, BN.out, ON.out, ZN.out⟩
            · omega
          · have hjli : ¬ (j : Int) < (lst (endsF L k labels 4) n).length := by omega
            have LN : Hid (Lay1 wr w.heap.size n n (cl (edge L labels) n (l ++ [k]))) := LX.out.congr (fun x hx => cm_last PK.out.1 htn (lst_end (endsF L k labels 4) n t j htn LT.out hjl) x hx)
            have BS := hid (BG.out.snoc PK.out)
            have OA : Hid (Ints H1 (wr.alloc (.cells #[.int .i64 k] 3)) (.slice oa l.length oc) l) := OX.out.later (below_box wr _)
            have LA : Hid (Lay1 (wr.alloc (.cells #[.int .i64 k] 3)) w.heap.size n n (cl (edge L labels) n (l ++ [k]))) := LN.out.later (below_box wr _)
            have BA : Hid (Below w.heap.size w (wr.alloc (.cells #[.int .i64 k] 3))) := BX.out.trans ((below_box wr _).mono BX.out.size)
            have CA : Hid ((wr.alloc (.cells #[.int .i64 k] 3)).cell? ⟨wr.heap.size, 0, none⟩ = some (.int .i64 k)) := new_cells wr #[.int .i64 k] 3 0
            have ZA : Hid (H1 ≤ (wr.alloc (.cells #[.int .i64 k] 3)).heap.size) := by have := ZX.out; show _ ≤ _; simp; omega
            clear LX RX LT BX OX ZX LN
            go_wp2_with (at_builtin; refine wpList_append_ints _ rfl _ _ rfl H1 ZA.out _ l rfl OA.out wr.heap.size k 1 rfl CA.out (by omega) ?_; intro gb cap' w6 o6 g6; have O6 := hid o6; have L6 : Hid (Lay1 w6 w.heap.size n n (cl (edge L labels) n (l ++ [k]))) := (by obtain ⟨cu, q1, q2⟩ := LA.out; exact ⟨cu, g6.at q1 (by have := HLT.out; omega), q2⟩); have B6 := hid (BA.out.trans (g6.below w.heap.size (fun x hx => by have := HLT.out; omega) BA.out.size)); have Z6 : Hid (H1 ≤ w6.heap.size) := Nat.le_trans ZA.out g6.size; clear o6 g6)
            go_roundg (n - (l ++ [k]).length)
            · exact ⟨l ++ [k], by simp; omega, Nat.le_refl _, by simp, BS.out, L6.out, (by have h := O6.out; exact h), B6.out, Z6.out⟩
            · simp; omega
      · clear hix
        have IOx : Hid (IsOrder (edge L labels) n [] false) := .inr ⟨rfl, rfl, l, BG.out, hlt, hno⟩
        clear hno
        go_wp2_with fail
        refine bodyPost_ret (v := .tuple #[.slice none 0 0, .bool false]) (by simp [results, Tryd.results11, go_sem]) rfl ?_
        first | exact ⟨⟨_, [], false, rfl, World.ownsRow_nil _ _ _ _, IOx.out⟩, BX.out⟩ | exact ⟨⟨_, [], .inl ⟨rfl, World.ownsRow_nil _ _ _ _, IOx.out⟩⟩, BX.out⟩
    · have hlti : ¬ (l.length : Int) < n := by omega
      have IOx : Hid (IsOrder (edge L labels) n l true) := .inl ⟨rfl, BG.out, by omega⟩
      obtain ⟨oa, oc, rfl⟩ := OX.out.form
      have OF : Hid (Ints w.heap.size wr (.slice oa l.length oc) l) := by
        have h := OX.out
        refine ⟨h.1, ?_⟩
        rcases h.2 with h1 | ⟨g, cap, cur, q1, q2, q3⟩
        · exact .inl h1
        · exact .inr ⟨g, cap, cur, q1, by have := HLT.out; omega, q3⟩
      go_wp2_with fail
      refine bodyPost_ret (v := .tuple #[.slice oa l.length oc, .bool true]) (by simp [results, Tryd.results11, go_sem]) rfl ?_
      first | exact ⟨⟨_, l, true, rfl, OF.out, IOx.out⟩, BX.out⟩ | exact ⟨⟨_, l, .inr ⟨rfl, OF.out, IOx.out⟩⟩, BX.out⟩
end Go.Proofs.YtjgmkigfpjmlaabDoor
