/-
  slices.Reverse of ints.
-/
import Derived.Deep.AppendLies
import Derived.Test.YtjgmkigfpjmlaaaDoorZF
namespace Go.Proofs.YtjgmkigfpjmlaaaDoor
set_option linter.unusedVariables false
set_option linter.unusedSimpArgs false
open Go.RowKit

/-- A list with its first and its last i swapped. -/
def swp (l : List Int) (i j : Nat) : Int := if j < i ∨ l.length ≤ j + i then l.getD (l.length - 1 - j) 0 else l.getD j 0
/-- A row of numbers in block g. -/
def Lay1 (w : World) (g : Nat) (N n : Nat) (f : Nat → Int) : Prop := ∃ cur : Array Value, w.heap[g]? = some (.cells cur 3) ∧ (cur.size = N ∧ n ≤ N) ∧ ∀ j, j < n → cur[j]? = some (.int .i64 (f j))
theorem Lay1.put {w : World} {g N n : Nat} {f : Nat → Int} (h : Lay1 w g N n f) (i : Nat) (x : Int) (hi : i < n) : Lay1 (w.setCell ⟨g, i, none⟩ (.int .i64 x)) g N n (fun j => if j = i then x else f j) := by
  obtain ⟨cur, h1, h2, h3⟩ := h
  refine ⟨cur.setIfInBounds i (.int .i64 x), Go.Joins.block_setCell h1 _, by simpa using h2, fun j hj => ?_⟩
  by_cases e : j = i
  · subst e
    rw [Array.getElem?_setIfInBounds_self_of_lt (by omega)]
    simp
  · rw [Array.getElem?_setIfInBounds_ne (fun e' => e e'.symm), h3 j hj]
    simp [e]
theorem Lay1.congr {w : World} {g N n : Nat} {f f' : Nat → Int} (h : Lay1 w g N n f) (he : ∀ j, j < n → f j = f' j) : Lay1 w g N n f' := by
  obtain ⟨cur, h1, h2, h3⟩ := h
  exact ⟨cur, h1, h2, fun j hj => by rw [← he j hj]; exact h3 j hj⟩
theorem Lay1.cell {w : World} {g N n : Nat} {f : Nat → Int} (h : Lay1 w g N n f) (j : Nat) (hj : j < n) : w.cell? ⟨g, j, none⟩ = some (.int .i64 (f j)) ∧ w.frozen? ⟨g, j, none⟩ = false := by
  obtain ⟨cur, h1, h2, h3⟩ := h
  exact ⟨(Lib.cell_of_heap h1 j).trans (h3 j hj), Lib.frozen_of_heap h1 j⟩
theorem swp_step (l : List Int) (i : Nat) (h : 2 * i + 1 < l.length) (j : Nat) (hj : j < l.length) :
    (if j = l.length - 1 - i then l.getD i 0 else if j = i then l.getD (l.length - 1 - i) 0 else swp l i j) = swp l (i + 1) j := by
  unfold swp
  by_cases e1 : j = l.length - 1 - i
  · rw [if_pos e1, if_pos (by omega)]
    congr 1
    omega
  · rw [if_neg e1]
    by_cases e2 : j = i
    · rw [if_pos e2, if_pos (by omega), e2]
    · rw [if_neg e2]
      by_cases e3 : j < i ∨ l.length ≤ j + i
      · rw [if_pos e3, if_pos (by omega)]
      · rw [if_neg e3, if_neg (by omega)]
theorem swp_end (l : List Int) (i : Nat) (h : ¬ 2 * i + 1 < l.length) (j : Nat) (hj : j < l.length) (hi : 2 * i ≤ l.length) : swp l i j = l.reverse.getD j 0 := by
  have e : l.reverse.getD j 0 = l.getD (l.length - 1 - j) 0 := by
    simp [List.getD, List.getElem?_reverse hj]
  unfold swp
  rw [e]
  by_cases e3 : j < i ∨ l.length ≤ j + i
  · rw [if_pos e3]
  · rw [if_neg e3]
    congr 1
    omega
end Go.Proofs.YtjgmkigfpjmlaaaDoor

/-
  Shortest.
-/
namespace Go.Proofs.YtjgmkigfpjmlaaaDoor
set_option linter.unusedVariables false
set_option linter.unusedSimpArgs false
open Go.RowKit

theorem intsV_append (l : List Nat) (y : Nat) : intsV (l ++ [y]) = intsV l ++ [.int .i64 (y : Int)] := by simp [intsV]
/-- An append of one number to a slice of one's own. -/
theorem wpList_append_ints {ops : Array Oper} {rest : List Oper} {o : Oper} {a : Act} {Q : Exit → Act → World → Prop} (w : World)
    (hg : o.guard = none) (s x : Operand) (hop : o.op = Op.call { callee := Callee.builtin Builtin.append, args := #[s, x], argTypes := #[29, 29] })
    (B : Nat) (hB : B ≤ w.heap.size) (v : Value) (l : List Nat) (hs : a.eval s = v) (hv : Ints B w v l)
    (ab : Nat) (y : Nat) (c : Nat) (hx : a.eval x = .slice (some ⟨ab, 0, none⟩) 1 c) (hc : w.cell? ⟨ab, 0, none⟩ = some (.int .i64 y)) (hl : l.length < 10000)
    (h : ∀ g cap w', Ints B w' (.slice (some ⟨g, 0, none⟩) (l.length + 1) cap) (l ++ [y]) → Gro (fun k => B ≤ k) w w' → wpList Tryd.prog ops Q rest (a.put o.dst (.slice (some ⟨g, 0, none⟩) (l.length + 1) cap)) w') : wpList Tryd.prog ops Q (o :: rest) a w := by
  obtain ⟨i0, hi, hz'⟩ := Option.map_eq_some_iff.1 Tryd.info3i
  simp only [Prod.mk.injEq] at hz'
  obtain ⟨hz0, hz1, hz2⟩ := hz'
  have hnews : ∀ j u, ([.int .i64 (y : Int)] : List Value)[j]? = some u → w.cell? ((⟨ab, 0, none⟩ : Addr).add j) = some u := by
    intro j u hj
    cases j with
    | zero => rw [Addr.add_lit]; simp at hj; subst hj; exact hc
    | succ j => simp at hj
  refine wpList_append_lies w hg s x 29 hop B 3 i0 (.int .i64 0) 1 8 Tryd.underlying29 hi hz0 hz1 hz2 rfl (by decide) v l.length (intsV l) hs hv ⟨ab, 0, none⟩ 1 c [.int .i64 y] hx rfl hnews (by simp [Value.oneCell']) (by decide) (by simp [maxLen]; omega) (by omega) hB _ rfl (fun g cap w' h1 h2 h3 h4 => h g cap w' ?_ ?_)
  · show World.ownsRow _ _ _ _ _ _ _
    rw [List.length_append, List.length_singleton, intsV_append]
    exact h1
  · refine ⟨h2.os, h2.tape, h2.output, h2.size, fun k hk hn => h2.block k hk fun e => hn ?_⟩
    exact (World.ownsRow.lt hv k e.symm).1
theorem Ints.lay {B : Nat} {w : World} {g n cap : Nat} {l : List Nat} (h : Ints B w (.slice (some ⟨g, 0, none⟩) n cap) l) (hn : n = l.length) : Lay1 w g cap l.length (fun j => (l.map fun x : Nat => (x : Int)).getD j 0) ∧ B ≤ g ∧ cap ≤ maxLen := by
  subst hn
  rcases h.2 with ⟨h1, _⟩ | ⟨g', cap', cur, hv, hb, hg, h1, h2, h3, h4⟩
  · cases h1
  · injection hv with e1 e2 e3
    injection e1 with e1
    injection e1 with e1
    subst e1
    subst e3
    refine ⟨⟨cur, hg, ⟨by omega, h1⟩, fun j hj => ?_⟩, hb, h2⟩
    have e : cur.toList[j]? = (cur.toList.take (l.length * 1))[j]? := by rw [List.getElem?_take, if_pos (by omega)]
    rw [← Array.getElem?_toList, e, h4]
    simp [intsV, List.getElem?_map, List.getD, hj]
theorem Lay1.ints {B : Nat} {w : World} {g cap : Nat} {l : List Nat} (h : Lay1 w g cap l.length (fun j => (l.map fun x : Nat => (x : Int)).getD j 0)) (hB : B ≤ g) (hc : cap ≤ maxLen) : Ints B w (.slice (some ⟨g, 0, none⟩) l.length cap) l := by
  obtain ⟨cur, h1, ⟨h2, h3⟩, h4⟩ := h
  refine ⟨by simp [intsV], .inr ⟨g, cap, cur, rfl, hB, h1, h3, hc, by omega, ?_⟩⟩
  apply List.ext_getElem?
  intro j
  rw [List.getElem?_take]
  by_cases hj : j < l.length
  · rw [if_pos (by omega), Array.getElem?_toList, h4 j hj]
    simp [intsV, List.getElem?_map, List.getD, hj]
  · rw [if_neg (by omega), List.getElem?_eq_none (by simp [intsV]; omega)]
theorem Lay1.later {w w' : World} {g N n : Nat} {f : Nat → Int} (h : Lay1 w g N n f) (hb : Below w.heap.size w w') : Lay1 w' g N n f := by
  obtain ⟨cur, h1, h2⟩ := h
  exact ⟨cur, (hb.block g (blt h1)).trans h1, h2⟩
theorem ints_made (B : Nat) (w : World) (l : List Nat) (hB : B ≤ w.heap.size) (hl : l.length ≤ maxLen) : Ints B (w.alloc (.cells (intsV l).toArray 3)) (.slice (some ⟨w.heap.size, 0, none⟩) l.length l.length) l :=
  ⟨by simp [intsV], .inr ⟨w.heap.size, l.length, _, rfl, hB, heap_alloc_new w _, Nat.le_refl _, hl, by simp [intsV], by rw [Nat.mul_one]; exact List.take_of_length_le (by simp [intsV])⟩⟩

theorem noWay_off {E : Nat → Nat → Bool} {n s : Nat} {to' : Int} (h : to' < 0 ∨ (n : Int) ≤ to') : ∀ T : Nat, to' = T → ∀ r, r ≠ [] → ¬ Wl E n s r T := by
  rintro T rfl r hr hw
  have := hw.last hr
  omega
theorem cnt_mono (f g : Nat → Bool) : ∀ n, (∀ k, k < n → f k = true → g k = true) → Pop.cnt f n ≤ Pop.cnt g n := by
  intro n
  induction n with
  | zero => intro _; exact Nat.le_refl _
  | succ n ih =>
    intro h
    have h1 := ih (fun k hk => h k (by omega))
    have h2 := h n (by omega)
    simp only [Pop.cnt]
    cases hf : f n with
    | false => simp; omega
    | true => rw [h2 hf]; simp; omega
theorem cnt_more (f g : Nat → Bool) (m : Nat) : ∀ n, m < n → (∀ k, k < n → f k = true → g k = true) → f m = false → g m = true → Pop.cnt f n + 1 ≤ Pop.cnt g n := by
  intro n
  induction n with
  | zero => intro h; omega
  | succ n ih =>
    intro hm h hf hg
    simp only [Pop.cnt]
    by_cases e : m = n
    · subst e
      have h1 := cnt_mono f g m (fun k hk => h k (by omega))
      rw [hf, hg]
      simp
      omega
    · have h1 := ih (by omega) (fun k hk => h k (by omega)) hf hg
      have h2 := h n (by omega)
      cases hfn : f n with
      | false => simp; omega
      | true => rw [h2 hfn]; simp; omega
/-- A walk back to the node to begin with. -/
structure Bk (E : Nat → Nat → Bool) (n s T : Nat) (cd : Nat → Nat) (v cb : Nat) (rest : List Nat) : Prop where
  walk : Wl E n v rest T
  num : cod n cb rest = cd T
  ne : rest ≠ []
  hv : v < n
  first : v = s → cb = s + 1
  next : v ≠ s → cb = cd v ∧ cb ≠ 0
  len : rest.length ≤ Pop.cnt (fun x => decide (cb < cd x)) n
theorem Bk.start {E : Nat → Nat → Bool} {n s T : Nat} {cd bf : Nat → Nat} {u cu t : Nat} {Q : List (Nat × Nat)} (h : Bfs E n s cd bf u cu t Q) (hT : cd T ≠ 0) : ∃ cb, Bk E n s T cd (bf T) cb [T] := by
  obtain ⟨h1, cb, h2, h3, h4, h5, h6⟩ := h.from' T hT
  have := Nat.le_mul_of_pos_right cb (show 0 < n + 1 by omega)
  refine ⟨cb, ⟨h3, h1, rfl⟩, h2.symm, by simp, h4, h5, h6, ?_⟩
  have := cnt_more (fun _ => false) (fun x => decide (cb < cd x)) T n h1 (fun k _ h => by cases h) rfl (by simp; omega)
  show 1 ≤ _
  omega
theorem Bk.step {E : Nat → Nat → Bool} {n s T : Nat} {cd bf : Nat → Nat} {u cu t : Nat} {Q : List (Nat × Nat)} (h : Bfs E n s cd bf u cu t Q) {v cb : Nat} {rest : List Nat} (hb : Bk E n s T cd v cb rest) (hne : v ≠ s) : ∃ cb', cb' < cb ∧ Bk E n s T cd (bf v) cb' (v :: rest) := by
  obtain ⟨k1, k2⟩ := hb.next hne
  obtain ⟨h1, cb', h2, h3, h4, h5, h6⟩ := h.from' v (by omega)
  have := Nat.le_mul_of_pos_right cb' (show 0 < n + 1 by omega)
  refine ⟨cb', by omega, ⟨h3, h1, hb.walk⟩, ?_, by simp, h4, h5, h6, ?_⟩
  · rw [cod_cons, ← h2, ← k1]
    exact hb.num
  · have := cnt_more (fun x => decide (cb < cd x)) (fun x => decide (cb' < cd x)) v n h1 (fun k _ h => by simp at h ⊢; omega) (by simp; omega) (by simp; omega)
    have := hb.len
    show rest.length + 1 ≤ _
    omega
theorem Bk.short {E : Nat → Nat → Bool} {n s T : Nat} {cd : Nat → Nat} {v cb : Nat} {rest : List Nat} (h : Bk E n s T cd v cb rest) : rest.length ≤ n := Nat.le_trans h.len (Pop.cnt_le _ _)
theorem Bk.best {E : Nat → Nat → Bool} {n s T : Nat} {cd bf : Nat → Nat} {u cu t : Nat} {Q : List (Nat × Nat)} (h : Bfs E n s cd bf u cu t Q) (hT : cd T ≠ 0) {cb : Nat} {rest : List Nat} (hb : Bk E n s T cd s cb rest) : Best E n s T rest := by
  refine ⟨hb.ne, hb.walk, fun q hq hw => ?_⟩
  have e := hb.num
  rw [hb.first rfl] at e
  rw [e]
  exact h.least T hT q hq hw
end Go.Proofs.YtjgmkigfpjmlaaaDoor
