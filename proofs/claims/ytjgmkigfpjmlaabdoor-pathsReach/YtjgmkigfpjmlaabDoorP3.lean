/-
  What the search holds in memory.
-/
import Derived.Test.YtjgmkigfpjmlaabDoorP2
namespace Go.Proofs.YtjgmkigfpjmlaabDoor
set_option linter.unusedVariables false
set_option linter.unusedSimpArgs false
open Go.RowKit

theorem first_hit (f : Nat → Bool) (t : Nat) : ∀ d, (∃ m, t ≤ m ∧ m < t + d ∧ f m = true ∧ ∀ k, t ≤ k → k < m → f k = false) ∨ (∀ k, t ≤ k → k < t + d → f k = false) := by
  intro d
  induction d with
  | zero => exact .inr fun k h1 h2 => by omega
  | succ d ih =>
    rcases ih with ⟨m, h1, h2, h3⟩ | h
    · exact .inl ⟨m, h1, by omega, h3⟩
    · cases hf : f (t + d) with
      | true => exact .inl ⟨t + d, by omega, by omega, hf, h⟩
      | false =>
        refine .inr fun k h1 h2 => ?_
        by_cases e : k = t + d
        · rw [e]; exact hf
        · exact h k h1 (by omega)
theorem lst_next (f : Nat → Bool) (n t j : Nat) (ht : t ≤ n) (h : lst f t = (lst f n).take j) (hj : j < (lst f n).length) :
    t ≤ (lst f n).getD j 0 ∧ (lst f n).getD j 0 < n ∧ f ((lst f n).getD j 0) = true ∧ (∀ k, t ≤ k → k < (lst f n).getD j 0 → f k = false) ∧ lst f ((lst f n).getD j 0 + 1) = (lst f n).take (j + 1) := by
  have hlen : (lst f t).length = j := by rw [h, List.length_take]; omega
  rcases first_hit f t (n - t) with ⟨m, h1, h2, h3, h4⟩ | h0
  · have hm : m < n := by omega
    have e1 := lst_step f t m h1 h3 h4
    obtain ⟨r, e2⟩ := lst_prefix f (m + 1) n (by omega)
    rw [e1] at e2
    have e3 : (lst f n).getD j 0 = m := by
      rw [e2, List.append_assoc]
      simp [List.getD, ← hlen]
    rw [e3]
    refine ⟨h1, hm, h3, h4, ?_⟩
    rw [e1, e2, List.append_assoc, ← hlen, List.take_length_add_append]
    simp
  · have := lst_gap f t n ht (fun k k1 k2 => h0 k k1 (by omega))
    rw [this] at hj
    omega
theorem lst_end (f : Nat → Bool) (n t j : Nat) (ht : t ≤ n) (h : lst f t = (lst f n).take j) (hj : ¬ j < (lst f n).length) : ∀ k, t ≤ k → k < n → f k = false := by
  rcases first_hit f t (n - t) with ⟨m, h1, h2, h3, h4⟩ | h0
  · exfalso
    have e1 := lst_step f t m h1 h3 h4
    obtain ⟨r, e2⟩ := lst_prefix f (m + 1) n (by omega)
    rw [List.take_of_length_le (by omega)] at h
    rw [e1, ← h] at e2
    have := congrArg List.length e2
    simp at this
  · exact fun k k1 k2 => h0 k k1 (by omega)

/-- The blocks of the queue: behind HQ, but not o. -/
def QP (HQ o : Nat) : Nat → Prop := fun g => HQ ≤ g ∧ g ≠ o
/-- The search: what was reached, from where, and the queue. -/
structure Fol (HQ o : Nat) (w : World) (n rb sb cb nb tb qb : Nat) (cd bf : Nat → Nat) (l : List Int) : Prop where
  set : Is w sb n cb (fun v => decide (cd v ≠ 0))
  bef : ∃ cur : Array Value, w.heap[nb]? = some (.cells cur 3) ∧ cur.size = n ∧ ∀ v, v < n → cur[v]? = some (.int .i64 (bf v))
  box : w.heap[tb]? = some (.cells #[.pointer (some ⟨sb, 0, none⟩), .slice (some ⟨nb, 0, none⟩) n n] 85)
  que : Que (QP HQ o) w qb l
  res : w.heap[rb]? = some (.cells #[.pointer none, .slice none 0 0] 85)
  lo : sb < HQ ∧ cb < HQ ∧ nb < HQ ∧ tb < HQ ∧ qb < HQ ∧ rb < HQ
  here : HQ ≤ w.heap.size
theorem Fol.later {HQ o : Nat} {w w' : World} {n rb sb cb nb tb qb : Nat} {cd bf : Nat → Nat} {l : List Int} (h : Fol HQ o w n rb sb cb nb tb qb cd bf l) (hb : Below w.heap.size w w') : Fol HQ o w' n rb sb cb nb tb qb cd bf l := by
  obtain ⟨cur, h1, h2⟩ := h.bef
  exact ⟨h.set.later hb, ⟨cur, (hb.block nb (blt h1)).trans h1, h2⟩, (hb.block tb (blt h.box)).trans h.box, h.que.later hb, (hb.block rb (blt h.res)).trans h.res, h.lo, Nat.le_trans h.here hb.size⟩
/-- Another list may lie where the queue has no block. -/
theorem Fol.other {HQ o o' : Nat} {w : World} {n rb sb cb nb tb qb : Nat} {cd bf : Nat → Nat} {l : List Int} (h : Fol HQ o w n rb sb cb nb tb qb cd bf l) (ho : w.heap.size ≤ o' ∨ o' < HQ) : Fol HQ o' w n rb sb cb nb tb qb cd bf l :=
  { h with que := h.que.mono fun k hk hp => ⟨hp.1, by have := hp.1; omega⟩ }
theorem Fol.reach {HQ o : Nat} {w w1 : World} {n rb sb cb nb tb qb : Nat} {cd bf : Nat → Nat} {l : List Int} (h : Fol HQ o w n rb sb cb nb tb qb cd bf l) (m u c : Nat) (hm : m < n) (hc : c ≠ 0)
    (hs : Is w1 sb n cb (fun k => k == m || decide (cd k ≠ 0))) (hb : Beside cb w w1) : Fol HQ o (w1.setCell ⟨nb, m, none⟩ (.int .i64 u)) n rb sb cb nb tb qb (fun v => if v = m then c else cd v) (fun v => if v = m then u else bf v) l := by
  obtain ⟨cur, h1, h2, h3⟩ := h.bef
  obtain ⟨ws, s1, s2⟩ := h.set.ex
  obtain ⟨ws1, t1, t2⟩ := hs.ex
  have n1 : w1.heap[nb]? = some (.cells cur 3) := (hb.block nb (blt h1) (tags h1 s1.row (by decide))).trans h1
  have b1 : w1.heap[tb]? = some (.cells #[.pointer (some ⟨sb, 0, none⟩), .slice (some ⟨nb, 0, none⟩) n n] 85) := (hb.block tb (blt h.box) (tags h.box s1.row (by decide))).trans h.box
  have r1 : w1.heap[rb]? = some (.cells #[.pointer none, .slice none 0 0] 85) := (hb.block rb (blt h.res) (tags h.res s1.row (by decide))).trans h.res
  obtain ⟨a1, a2, a3, a4, a5, a6⟩ := h.lo
  have q1 : Que (QP HQ o) w1 qb l := h.que.gro (Q := fun k => k = cb) ⟨hb.os, hb.tape, hb.output, hb.size, hb.block⟩ (fun k hk e => by have := hk.1; omega) (by
    rintro e
    obtain ⟨v, q, _⟩ := h.que.ex
    exact tags q s1.row (by decide) e)
  have hg : Gro (fun k => k = nb) w1 (w1.setCell ⟨nb, m, none⟩ (.int .i64 u)) := gro_set w1 ⟨nb, m, none⟩ _
  refine ⟨?_, ⟨cur.setIfInBounds m (.int .i64 u), Go.Joins.block_setCell n1 _, by simpa using h2, fun v hv => ?_⟩, hg.at b1 (tags b1 n1 (by decide)), q1.gro hg (fun k hk e => by have := hk.1; omega) ?_, hg.at r1 (tags r1 n1 (by decide)), h.lo, ?_⟩
  · have hs2 : Is (w1.setCell ⟨nb, m, none⟩ (.int .i64 u)) sb n cb (fun k => k == m || decide (cd k ≠ 0)) := ⟨⟨ws1, ⟨hg.at t1.box (tags t1.box n1 (by decide)), hg.at t1.row (tags t1.row n1 (by decide)), t1.len, t1.small, t1.bound⟩, t2⟩, hs.top⟩
    refine hs2.congr (fun v => ?_)
    by_cases e : v = m
    · simp [e, hc]
    · simp [e]
  · by_cases e : v = m
    · subst e
      rw [Array.getElem?_setIfInBounds_self_of_lt (by omega), if_pos rfl]
    · rw [Array.getElem?_setIfInBounds_ne (fun e' => e e'.symm), h3 v hv, if_neg e]
  · rintro e
    obtain ⟨v, q, _⟩ := q1.ex
    exact tags q n1 (by decide) e
  · show HQ ≤ (w1.setCell ⟨nb, m, none⟩ (.int .i64 u)).heap.size
    rw [World.size_setCell]
    exact Nat.le_trans h.here hb.size
theorem Fol.put {HQ o : Nat} {w w1 : World} {n rb sb cb nb tb qb : Nat} {cd bf : Nat → Nat} {l l' : List Int} (h : Fol HQ o w n rb sb cb nb tb qb cd bf l) (hq : Que (QP HQ o) w1 qb l') (hg : Gro (fun k => k = qb ∨ QP HQ o k) w w1) : Fol HQ o w1 n rb sb cb nb tb qb cd bf l' := by
  obtain ⟨cur, h1, h2, h3⟩ := h.bef
  obtain ⟨ws, s1, s2⟩ := h.set.ex
  obtain ⟨a1, a2, a3, a4, a5, a6⟩ := h.lo
  obtain ⟨v, q, _⟩ := h.que.ex
  have far : ∀ {x : Nat} {cs : Array Value} {t : TypeId}, w.heap[x]? = some (.cells cs t) → x < HQ → t ≠ 108 → w1.heap[x]? = some (.cells cs t) := fun hx hl ht => hg.at hx (by
    rintro (e | e)
    · exact tags hx q ht e
    · have := e.1; omega)
  exact ⟨⟨⟨ws, ⟨far s1.box a1 (by decide), far s1.row a2 (by decide), s1.len, s1.small, s1.bound⟩, s2⟩, h.set.top⟩, ⟨cur, far h1 a3 (by decide), h2, h3⟩, far h.box a4 (by decide), hq, far h.res a6 (by decide), h.lo, Nat.le_trans h.here hg.size⟩

/-- A list of ints that was handed out, in block o. -/
def RowO (HQ : Nat) (w : World) (ao : Option Addr) (o : Nat) (l : List Nat) : Prop := ∀ j, j < l.length → ao = some ⟨o, 0, none⟩ ∧ HQ ≤ o ∧ ∃ cur, w.heap[o]? = some (.cells cur 3) ∧ cur[j]? = some (.int .i64 (l.getD j 0))
theorem RowO.keep {HQ : Nat} {w w' : World} {ao : Option Addr} {o : Nat} {l : List Nat} (h : RowO HQ w ao o l) (hk : HQ ≤ o → ∀ cs, w.heap[o]? = some (.cells cs 3) → w'.heap[o]? = some (.cells cs 3)) : RowO HQ w' ao o l := by
  intro j hj
  obtain ⟨h1, h2, cur, h3, h4⟩ := h j hj
  exact ⟨h1, h2, cur, hk h2 cur h3, h4⟩
theorem Ints.rowO {B HQ : Nat} {w : World} {v : Value} {l : List Nat} (h : Ints B w v l) (hB : HQ ≤ B) : ∃ ao cap o, v = .slice ao l.length cap ∧ RowO HQ w ao o l ∧ (B ≤ o ∨ o = 0) := by
  rcases h.2 with ⟨rfl, hn⟩ | ⟨g, cap, cur, hv, hb, hg, h1, h2, h3, h4⟩
  · exact ⟨none, 0, 0, by rw [hn], fun j hj => by omega, .inr rfl⟩
  · refine ⟨_, cap, g, hv, fun j hj => ⟨rfl, by omega, cur, hg, ?_⟩, .inl hb⟩
    have e : cur.toList[j]? = (cur.toList.take (l.length * 1))[j]? := by rw [List.getElem?_take, if_pos (by omega)]
    rw [← Array.getElem?_toList, e, h4]
    simp [intsV, List.getElem?_map, List.getD, hj]
theorem cnt_put (cd : Nat → Nat) (m c : Nat) (hc : c ≠ 0) (h0 : cd m = 0) : ∀ n, Pop.cnt (fun v => decide ((if v = m then c else cd v) = 0)) n + (if m < n then 1 else 0) = Pop.cnt (fun v => decide (cd v = 0)) n := by
  intro n
  induction n with
  | zero => simp [Pop.cnt]
  | succ n ih =>
    simp only [Pop.cnt]
    by_cases e : n = m
    · subst e
      rw [if_neg (by omega)] at ih
      rw [← ih]
      simp [hc, h0]
    · rw [if_neg e]
      by_cases hm : m < n
      · rw [if_pos hm] at ih
        rw [if_pos (by omega), ← ih]
        omega
      · rw [if_neg hm] at ih
        rw [if_neg (by omega), ← ih]
        omega
theorem fol_start (w1 : World) (n rb sb cb : Nat) (s : Int) (hS : Is w1 sb n cb (fun _ => false)) (hr : w1.heap[rb]? = some (.cells #[.pointer none, .slice none 0 0] 85)) :
    Fol (w1.heap.size + 3) 0 ((((w1.alloc (.cells (Array.replicate n (.int .i64 0)) 3)).alloc (.cells #[.pointer (some ⟨sb, 0, none⟩), .slice (some ⟨w1.heap.size, 0, none⟩) n n] 85)).alloc (.cells #[.slice none 0 0] 108)).alloc (.cells #[.int .i64 s] 3)) n rb sb cb w1.heap.size (w1.heap.size + 1) (w1.heap.size + 1 + 1) (fun _ => 0) (fun _ => 0) [] := by
  obtain ⟨ws, s1, s2⟩ := hS.ex
  have l1 := blt s1.box
  have l2 := blt s1.row
  have l3 := blt hr
  have b1 : Below w1.heap.size w1 ((((w1.alloc (.cells (Array.replicate n (.int .i64 0)) 3)).alloc (.cells #[.pointer (some ⟨sb, 0, none⟩), .slice (some ⟨w1.heap.size, 0, none⟩) n n] 85)).alloc (.cells #[.slice none 0 0] 108)).alloc (.cells #[.int .i64 s] 3)) :=
    ((((Below.refl _ _).alloc (Nat.le_refl _) _).alloc (by simp) _).alloc (by simp; omega) _).alloc (by simp; omega) _
  have st : ∀ (W : World) (x : Nat) (o : Obj) (cs : Array Value) (t : TypeId), W.heap[x]? = some (.cells cs t) → (W.alloc o).heap[x]? = some (.cells cs t) := fun W x o cs t hx => ((below_box W o).block x (blt hx)).trans hx
  refine ⟨(hS.later b1).congr (fun _ => by simp), ⟨_, st _ _ _ _ _ (st _ _ _ _ _ (st _ _ _ _ _ (heap_alloc_new w1 _))), by simp, fun v hv => by simp [hv]⟩, st _ _ _ _ _ (st _ _ _ _ _ ?_), ⟨_, st _ _ _ _ _ ?_, .inl ⟨rfl, rfl⟩⟩, (b1.block rb l3).trans hr, by omega, by simp⟩
  · have := heap_alloc_new (w1.alloc (.cells (Array.replicate n (.int .i64 0)) 3)) (.cells #[.pointer (some ⟨sb, 0, none⟩), .slice (some ⟨w1.heap.size, 0, none⟩) n n] 85)
    rw [World.size_alloc] at this
    exact this
  · have := heap_alloc_new ((w1.alloc (.cells (Array.replicate n (.int .i64 0)) 3)).alloc (.cells #[.pointer (some ⟨sb, 0, none⟩), .slice (some ⟨w1.heap.size, 0, none⟩) n n] 85)) (.cells #[.slice none 0 0] 108)
    rw [World.size_alloc, World.size_alloc] at this
    exact this
end Go.Proofs.YtjgmkigfpjmlaabDoor
