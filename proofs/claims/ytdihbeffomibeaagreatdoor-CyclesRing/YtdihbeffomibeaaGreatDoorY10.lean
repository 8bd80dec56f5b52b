/-
  drawn once more: no edge of a graph leads to where it begins; graphs by other functions that are alike.
  The law PathsTurned.
  What is reached: plain; an append of many numbers.
-/
import Derived.Test.YtdihbeffomibeaaGreatDoorY9
namespace Go.Proofs.YtdihbeffomibeaaGreatDoor
set_option linter.unusedVariables false
set_option linter.unusedSimpArgs false
open Go.RowKit

set_option maxRecDepth 100000 in
theorem turn_is (b n r : Nat) (bk ck : Nat → Nat) (L : Nat → Nat → Nat) (w : World) (h : Graph w b n r bk ck L) (hT : Tab w) :
    Calls Tryz.prog 39 #[.pointer (some ⟨b, 0, none⟩)] w fun e w' => (∃ b' r' bk' ck', e = .returned (.pointer (some ⟨b', 0, none⟩)) ∧ Graph w' b' n r' bk' ck' (((allE L n n).map fun e => (e.2.1, e.1, e.2.2)).foldl (stepE n) (fun _ _ => 0)) ∧ ∀ k, k < 4 * n → w.heap.size ≤ ck' k) ∧ Below w.heap.size w w' := by
  have H := hid (redrawT b n r bk ck L w h hT)
  clear h hT
  go_enter Tryz.func39, Tryz.ntmps39
  go_wp2_with fail
  refine H.out.mono ?_
  rintro e w' ⟨⟨b', r', bk', ck', rfl, h1, h2⟩, h3⟩
  have G1 := hid h1
  have L1 := hid h2
  have B1 := hid h3
  clear h1 h2 h3 H
  go_wp2_with fail
  go_ret
  first | exact ⟨⟨_, rfl, r', bk', ck', G1.out, L1.out⟩, B1.out⟩ | exact ⟨⟨_, r', bk', ck', rfl, G1.out, L1.out⟩, B1.out⟩

theorem Graph.beyond {w : World} {b n r : Nat} {bk ck : Nat → Nat} {L : Nat → Nat → Nat} (h : Graph w b n r bk ck L) (f t : Nat) (hf : f < n) (ht : n ≤ t) : L f t = 0 := by
  apply Nat.eq_of_testBit_eq
  intro i
  rw [Nat.zero_testBit]
  by_cases hi : i < 4
  · have h1 := (h.sets (4 * f + i) (by omega)).top t ht
    have e1 : (4 * f + i) / 4 = f := by omega
    have e2 : (4 * f + i) % 4 = i := by omega
    rw [e1, e2] at h1
    exact h1
  · exact Nat.testBit_lt_two_pow (Nat.lt_of_lt_of_le (h.small f t) (Nat.pow_le_pow_right (n := 2) (i := 4) (by decide) (by omega)))
theorem Graph.congr {w : World} {b n r : Nat} {bk ck : Nat → Nat} {L L' : Nat → Nat → Nat} (h : Graph w b n r bk ck L) (he : ∀ f t, f < n → L f t = L' f t) (hs : ∀ f t, L' f t < 16) : Graph w b n r bk ck L' := by
  refine ⟨h.box, h.row, fun k hk => ?_, h.apart, hs, h.bound⟩
  have e : (fun to' => (L' (k / 4) to').testBit (k % 4)) = (fun to' => (L (k / 4) to').testBit (k % 4)) := by
    funext t
    rw [he (k / 4) t (by omega)]
  rw [e]
  exact h.sets k hk
theorem RefG.congr {w : World} {b n : Nat} {v : Value} {rw' : Nat → Nat} {L L' : Nat → Nat → Nat} (h : RefG w b n v rw' L) (he : ∀ f t, f < n → t < n → L f t = L' f t) (hs : ∀ f t, L' f t < 16) : RefG w b n v rw' L' := by
  refine ⟨h.box, h.rows, fun i hi => ?_, h.apart, hs, h.bound⟩
  obtain ⟨cur, h1, h2, h3⟩ := h.each i hi
  exact ⟨cur, h1, h2, fun j hj => by rw [← he i j hi hj]; exact h3 j hj⟩
/-- The turned labels. -/
def turnL (L : Nat → Nat → Nat) (n : Nat) : Nat → Nat → Nat := fun f t => if f < n ∧ t < n then L t f else 0
theorem turnL_small (L : Nat → Nat → Nat) (n : Nat) (h : ∀ f t, L f t < 16) (f t : Nat) : turnL L n f t < 16 := by
  unfold turnL
  split
  · exact h t f
  · decide
theorem turnL_diag (L : Nat → Nat → Nat) (n : Nat) (h : ∀ f, L f f = 0) (f : Nat) : turnL L n f f = 0 := by
  unfold turnL
  split
  · exact h f
  · rfl
theorem Graph.turned {w : World} {b n r : Nat} {bk ck : Nat → Nat} {L : Nat → Nat → Nat} (h : Graph w b n r bk ck (((allE L n n).map fun e => (e.2.1, e.1, e.2.2)).foldl (stepE n) (fun _ _ => 0))) (hs : ∀ f t, L f t < 16) (hd : ∀ f, L f f = 0) : Graph w b n r bk ck (turnL L n) := by
  refine h.congr (fun f t hf => ?_) (turnL_small L n hs)
  unfold turnL
  by_cases ht : t < n
  · rw [if_pos ⟨hf, ht⟩]
    exact fold_turn L n hs hd f t hf ht
  · rw [if_neg (fun c => ht c.2)]
    exact h.beyond f t hf (by omega)
theorem RefG.turned {w : World} {b n : Nat} {v : Value} {rw' : Nat → Nat} {L : Nat → Nat → Nat} (h : RefG w b n v rw' (((allE L n n).map fun e => (e.2.1, e.1, e.2.2)).foldl (stepE n) (fun _ _ => 0))) (hs : ∀ f t, L f t < 16) (hd : ∀ f, L f f = 0) : RefG w b n v rw' (turnL L n) := by
  refine h.congr (fun f t hf ht => ?_) (turnL_small L n hs)
  unfold turnL
  rw [if_pos ⟨hf, ht⟩]
  exact fold_turn L n hs hd f t hf ht
/-- Turned twice. -/
theorem Graph.back {w : World} {b n r : Nat} {bk ck : Nat → Nat} {L : Nat → Nat → Nat} (h : Graph w b n r bk ck (turnL (turnL L n) n)) (hs : ∀ f t, L f t < 16) (hb : ∀ f t, f < n → n ≤ t → L f t = 0) : Graph w b n r bk ck L := by
  refine h.congr (fun f t hf => ?_) hs
  unfold turnL
  by_cases ht : t < n
  · rw [if_pos ⟨hf, ht⟩, if_pos ⟨ht, hf⟩]
  · rw [if_neg (fun c => ht c.2), hb f t hf (by omega)]
end Go.Proofs.YtdihbeffomibeaaGreatDoor
namespace Go.Proofs.YtdihbeffomibeaaGreatDoor
set_option linter.unusedVariables false
set_option linter.unusedSimpArgs false
open Go.RowKit

theorem Wl.back {E E' : Nat → Nat → Bool} {n : Nat} (hE : ∀ u v, u < n → v < n → E' u v = E v u) {t : Nat} : ∀ (r : List Nat) (s : Nat), s < n → Wl E n s r t → ∃ r', r'.length = r.length ∧ Wl E' n t r' s := by
  intro r
  induction r with
  | nil => intro s _ h; exact ⟨[], rfl, h.symm⟩
  | cons m r ih =>
    rintro s hs ⟨h1, h2, h3⟩
    obtain ⟨r', k1, k2⟩ := ih m h2 h3
    refine ⟨r' ++ [s], by simp [k1], Wl.snoc.2 ⟨m, k2, ?_, hs, rfl⟩⟩
    rw [hE m s h2 hs]
    exact h1
theorem IsFar.back {E E' : Nat → Nat → Bool} {n : Nat} (hE : ∀ u v, u < n → v < n → E' u v = E v u) {s t d : Int} (h : IsFar E n s t d) : IsFar E' n t s d := by
  have hE2 : ∀ u v, u < n → v < n → E u v = E' v u := fun u v hu hv => (hE v u hv hu).symm
  rcases h with ⟨S, T, D, rfl, h1, rfl, h2, rfl, h3⟩ | ⟨rfl, h1⟩
  · refine .inl ⟨T, S, D, rfl, h2, rfl, h1, rfl, h3.1, ?_, ?_⟩
    · obtain ⟨r, hl, hw⟩ := h3.2.1
      obtain ⟨r', k1, k2⟩ := hw.back hE r S h1
      exact ⟨r', by omega, k2⟩
    · rintro j hj ⟨r, hl, hw⟩
      obtain ⟨r', k1, k2⟩ := Wl.back hE2 r T h2 hw
      exact h3.2.2 j hj ⟨r', by omega, k2⟩
  · refine .inr ⟨rfl, ?_⟩
    rintro T S rfl hT rfl r hr hw
    have hS := hw.last hr
    obtain ⟨r', k1, k2⟩ := Wl.back hE2 r T hT hw
    exact h1 S T rfl hS rfl r' (by rintro rfl; exact hr (List.length_eq_zero_iff.1 k1.symm)) k2
theorem edge_turn (L : Nat → Nat → Nat) (n : Nat) (labels : Int) (u v : Nat) (hu : u < n) (hv : v < n) : edge (turnL L n) labels u v = edge L labels v u := by
  unfold edge endsF turnL
  rw [if_pos ⟨hu, hv⟩]
end Go.Proofs.YtdihbeffomibeaaGreatDoor
namespace Go.Proofs.YtdihbeffomibeaaGreatDoor
set_option linter.unusedVariables false
set_option linter.unusedSimpArgs false
open Go.RowKit

def Rch (E : Nat → Nat → Bool) (n s v : Nat) : Prop := ∃ r, r ≠ [] ∧ Wl E n s r v
theorem Bfs.rch {E : Nat → Nat → Bool} {n s : Nat} {cd bf : Nat → Nat} {u cu t : Nat} {Q : List (Nat × Nat)} (h : Bfs E n s cd bf u cu t Q) : ∀ k v, cd v ≤ k → cd v ≠ 0 → Rch E n s v := by
  intro k
  induction k with
  | zero => intro v h1 h2; omega
  | succ k ih =>
    intro v h1 h2
    obtain ⟨a1, cb, a2, a3, a4, a5, a6⟩ := h.from' v h2
    by_cases e : bf v = s
    · rw [e] at a3
      exact ⟨[v], by simp, a3, a1, rfl⟩
    · obtain ⟨b1, b2⟩ := a6 e
      have := Nat.le_mul_of_pos_right cb (show 0 < n + 1 by omega)
      obtain ⟨r, hr, hw⟩ := ih (bf v) (by omega) (by omega)
      exact ⟨r ++ [v], by simp, Wl.snoc.2 ⟨_, hw, a3, a1, rfl⟩⟩
theorem Ends.rch {E : Nat → Nat → Bool} {n s : Nat} {cd bf : Nat → Nat} (h : Ends E n s (-1) cd bf) (v : Nat) : cd v ≠ 0 ↔ Rch E n s v := by
  obtain ⟨u, cu, t, Q, hb, he⟩ := h
  rcases he with ⟨rfl, rfl⟩ | ⟨T, e, _⟩
  · constructor
    · intro h; exact hb.rch (cd v) v (Nat.le_refl _) h
    · rintro ⟨r, hr, hw⟩; exact (hb.whole r v hw).2 hr
  · omega
/-- The document's search: what is met, and what is to come. -/
structure Mt (E : Nat → Nat → Bool) (n s : Nat) (M : Nat → Bool) (l : List Nat) : Prop where
  hs : s < n
  que : ∀ v ∈ l, v < n ∧ Rch E n s v
  met : ∀ v, M v = true → v < n ∧ Rch E n s v
  one : ∀ m, m < n → E s m = true → M m = true ∨ m ∈ l
  all : ∀ v, M v = true → ∀ m, m < n → E v m = true → M m = true ∨ m ∈ l
theorem mem_lst {f : Nat → Bool} {n m : Nat} : m ∈ lst f n ↔ m < n ∧ f m = true := by unfold lst; simp [List.mem_filter]
theorem Mt.first (E : Nat → Nat → Bool) (n s : Nat) (hs : s < n) : Mt E n s (fun _ => false) (lst (E s) n) :=
  ⟨hs, fun v hv => ⟨(mem_lst.1 hv).1, [v], by simp, (mem_lst.1 hv).2, (mem_lst.1 hv).1, rfl⟩, fun v h => (by cases h), fun m hm he => .inr (mem_lst.2 ⟨hm, he⟩), fun v h => (by cases h)⟩
theorem Mt.skip {E : Nat → Nat → Bool} {n s : Nat} {M : Nat → Bool} {u : Nat} {l : List Nat} (h : Mt E n s M (u :: l)) (hu : M u = true) : Mt E n s M l := by
  have key : ∀ m, (M m = true ∨ m ∈ u :: l) → M m = true ∨ m ∈ l := by
    rintro m (h1 | h1)
    · exact .inl h1
    · rcases List.mem_cons.1 h1 with rfl | h1
      · exact .inl hu
      · exact .inr h1
  exact ⟨h.hs, fun v hv => h.que v (List.mem_cons_of_mem _ hv), h.met, fun m hm he => key m (h.one m hm he), fun v hv m hm he => key m (h.all v hv m hm he)⟩
theorem Mt.go {E : Nat → Nat → Bool} {n s : Nat} {M : Nat → Bool} {u : Nat} {l : List Nat} (h : Mt E n s M (u :: l)) : Mt E n s (fun k => k == u || M k) (l ++ lst (E u) n) := by
  obtain ⟨hu, r, hr, hw⟩ := h.que u (by simp)
  have key : ∀ m, (M m = true ∨ m ∈ u :: l) → (m == u || M m) = true ∨ m ∈ l ++ lst (E u) n := by
    rintro m (h1 | h1)
    · exact .inl (by simp [h1])
    · rcases List.mem_cons.1 h1 with rfl | h1
      · exact .inl (by simp)
      · exact .inr (List.mem_append_left _ h1)
  refine ⟨h.hs, fun v hv => ?_, fun v hv => ?_, fun m hm he => key m (h.one m hm he), fun v hv m hm he => ?_⟩
  · rcases List.mem_append.1 hv with hv | hv
    · exact h.que v (List.mem_cons_of_mem _ hv)
    · obtain ⟨k1, k2⟩ := mem_lst.1 hv
      exact ⟨k1, r ++ [v], by simp, Wl.snoc.2 ⟨u, hw, k2, k1, rfl⟩⟩
  · simp only [Bool.or_eq_true, beq_iff_eq] at hv
    rcases hv with rfl | hv
    · exact ⟨hu, r, hr, hw⟩
    · exact h.met v hv
  · simp only [Bool.or_eq_true, beq_iff_eq] at hv
    rcases hv with rfl | hv
    · exact .inr (List.mem_append_right _ (mem_lst.2 ⟨hm, he⟩))
    · exact key m (h.all v hv m hm he)
theorem Mt.ends {E : Nat → Nat → Bool} {n s : Nat} {M : Nat → Bool} (h : Mt E n s M []) (v : Nat) : M v = true ↔ Rch E n s v := by
  refine ⟨fun hv => (h.met v hv).2, ?_⟩
  rintro ⟨r, hr, hw⟩
  have key : ∀ (r : List Nat) (v : Nat), r ≠ [] → Wl E n s r v → M v = true := by
    intro r
    induction r using snocRec with
    | h0 => intro v h1; exact absurd rfl h1
    | h1 r x ih =>
      intro v _ hw
      obtain ⟨y, w1, w2, w3, rfl⟩ := Wl.snoc.1 hw
      by_cases hr : r = []
      · subst hr
        have e : s = y := w1
        subst e
        rcases h.one x w3 w2 with h1 | h1
        · exact h1
        · cases h1
      · rcases h.all y (ih y hr w1) x w3 w2 with h1 | h1
        · exact h1
        · cases h1
  exact key r v hr hw
/-- How much is left. -/
def leftM (n : Nat) (M : Nat → Bool) (l : List Nat) : Nat := Pop.cnt (fun v => !M v) n * (n + 1) + l.length
theorem leftM_skip (n : Nat) (M : Nat → Bool) (u : Nat) (l : List Nat) : leftM n M l + 1 = leftM n M (u :: l) := by unfold leftM; simp; omega
theorem leftM_go (n : Nat) (M : Nat → Bool) (u : Nat) (l : List Nat) (f : Nat → Bool) (hu : u < n) (hM : M u = false) : leftM n (fun k => k == u || M k) (l ++ lst f n) + 1 ≤ leftM n M (u :: l) := by
  unfold leftM
  have h1 := cnt_more (fun v => !(v == u || M v)) (fun v => !M v) u n hu (fun k _ h => by simp at h ⊢; exact h.2) (by simp) (by simp [hM])
  have h2 := Nat.mul_le_mul_right (n + 1) h1
  rw [Nat.add_mul, Nat.one_mul] at h2
  have h3 := lst_le f n
  rw [List.length_append, List.length_cons]
  dsimp only
  omega
theorem leftM_first (n : Nat) (f : Nat → Bool) : leftM n (fun _ => false) (lst f n) ≤ n * (n + 1) + n := by
  unfold leftM
  have h1 := Nat.mul_le_mul_right (n + 1) (Pop.cnt_le (fun v => !(fun _ => false : Nat → Bool) v) n)
  have h3 := lst_le f n
  omega

theorem setCells_block (g : Nat) (t : TypeId) : ∀ (vs : List Value) (o : Nat) (w : World) (cur : Array Value), w.heap[g]? = some (.cells cur t) → o + vs.length ≤ cur.size →
    ∃ cur', (w.setCells g o vs).heap[g]? = some (.cells cur' t) ∧ cur'.size = cur.size ∧ ∀ j, cur'[j]? = if o ≤ j ∧ j < o + vs.length then vs[j - o]? else cur[j]? := by
  intro vs
  induction vs with
  | nil => intro o w cur h _; exact ⟨cur, h, rfl, fun j => by rw [if_neg (by rintro ⟨h1, h2⟩; rw [List.length_nil] at h2; omega)]⟩
  | cons v vs ih =>
    intro o w cur h hl
    rw [List.length_cons] at hl
    obtain ⟨cur', h1, h2, h3⟩ := ih (o + 1) (w.setCell ⟨g, o, none⟩ v) (cur.setIfInBounds o v) (Go.Joins.block_setCell h v) (by simp; omega)
    refine ⟨cur', h1, by rw [h2]; simp, fun j => ?_⟩
    rw [h3]
    by_cases e1 : o + 1 ≤ j ∧ j < o + 1 + vs.length
    · rw [if_pos e1, if_pos (by rw [List.length_cons]; omega)]
      have e2 : j - o = (j - (o + 1)) + 1 := by omega
      rw [e2]
      simp
    · rw [if_neg e1]
      by_cases e2 : j = o
      · subst e2
        rw [if_pos (by rw [List.length_cons]; omega), Array.getElem?_setIfInBounds_self_of_lt (by omega)]
        simp
      · rw [if_neg (by rw [List.length_cons]; omega), Array.getElem?_setIfInBounds_ne (fun e => e2 e.symm)]
theorem setCells_far (g : Nat) : ∀ (vs : List Value) (o : Nat) (w : World) (k : Nat), k ≠ g → (w.setCells g o vs).heap[k]? = w.heap[k]? := by
  intro vs
  induction vs with
  | nil => intro o w k _; rfl
  | cons v vs ih => intro o w k hk; exact (ih (o + 1) (w.setCell ⟨g, o, none⟩ v) k hk).trans (Below.heap_setCell w ⟨g, o, none⟩ v k hk)
theorem setCells_same (g : Nat) : ∀ (vs : List Value) (o : Nat) (w : World), (w.setCells g o vs).os = w.os ∧ (w.setCells g o vs).tape = w.tape ∧ (w.setCells g o vs).output = w.output ∧ (w.setCells g o vs).heap.size = w.heap.size := by
  intro vs
  induction vs with
  | nil => intro o w; exact ⟨rfl, rfl, rfl, rfl⟩
  | cons v vs ih =>
    intro o w
    obtain ⟨h1, h2, h3, h4⟩ := ih (o + 1) (w.setCell ⟨g, o, none⟩ v)
    exact ⟨h1, h2, h3, h4.trans (World.size_setCell _ _ _)⟩

/-- An append of many numbers, or of none, to a slice that lies in a block. -/
theorem wpList_append_many {ops : Array Oper} {rest : List Oper} {o : Oper} {a : Act} {Q : Exit → Act → World → Prop} (w : World)
    (hg : o.guard = none) (s x : Operand) (hop : o.op = Op.call { callee := Callee.builtin Builtin.append, args := #[s, x], argTypes := #[40, 40] })
    (P : Nat → Prop) (hP : ∀ g, w.heap.size ≤ g → P g) (l : List Int) (g off cap : Nat) (cur : Array Value) (hs : a.eval s = .slice (some ⟨g, off, none⟩) l.length cap) (hPg : P g) (hgg : w.heap[g]? = some (.cells cur 3)) (hc1 : l.length ≤ cap) (hc2 : cap ≤ maxLen) (hsz : off + cap ≤ cur.size) (hat : ∀ j, j < l.length → cur[off + j]? = some (.int .i64 (l.getD j 0)))
    (ns : List Nat) (B : Nat) (xv : Value) (hx : a.eval x = xv) (hi : Ints B w xv ns) (hl : l.length + ns.length < 100000)
    (h : ∀ v' w', Part P w' v' (l ++ ns.map fun z : Nat => (z : Int)) → Gro P w w' → wpList Tryz.prog ops Q rest (a.put o.dst v') w') : wpList Tryz.prog ops Q (o :: rest) a w := by
  obtain ⟨i0, hi0, hz'⟩ := Option.map_eq_some_iff.1 Tryz.info3i
  simp only [Prod.mk.injEq] at hz'
  obtain ⟨hz0, hz1, hz2⟩ := hz'
  have hlm : (l ++ ns.map fun z : Nat => (z : Int)).length = l.length + ns.length := by simp
  have hget : ∀ j, j < l.length → (l ++ ns.map fun z : Nat => (z : Int)).getD j 0 = l.getD j 0 := fun j hj => by simp [List.getD, List.getElem?_append_left hj]
  have hget2 : ∀ j, j < ns.length → (l ++ ns.map fun z : Nat => (z : Int)).getD (l.length + j) 0 = ((ns.getD j 0 : Nat) : Int) := fun j hj => by
    simp [List.getD, List.getElem?_append_right, hj]
  rcases hi.2 with ⟨rfl, hn⟩ | ⟨ad, xc, xcur, rfl, hb, hxg, hx1, hx2, hx3, hx4⟩
  · have hns : ns = [] := List.length_eq_zero_iff.1 hn
    subst hns
    refine wpList_plain hg fun K hK' => ?_
    have hrun : (Builtin.append_ #[40, 40] o.type #[.slice (some ⟨g, off, none⟩) l.length cap, .slice none 0 0]).run Tryz.prog w = .ok (.slice (some ⟨g, off, none⟩) l.length cap) w := by
      simp [Builtin.append_, run_underlying Tryz.underlying40, sizeOf, typeInfo, hi0, Builtin.lenOf, Builtin.firstCells, hc1, storeCells]
    unfold Oper.wp
    simp [execOp, hop, resolve, invoke, builtin, hs, hx, hrun, Result.andThen]
    exact hK' _ _ (h _ _ (.inr ⟨g, off, cap, cur, by rw [hlm]; rfl, hPg, hgg, by rw [hlm]; simpa using hc1, hc2, hsz, fun j hj => by rw [hlm] at hj; rw [hget j (by simpa using hj)]; exact hat j (by simpa using hj)⟩) (Gro.refl _ _))
  · have hnews : ∀ j u, (intsV ns)[j]? = some u → w.cell? ((⟨ad, 0, none⟩ : Addr).add j) = some u := by
      intro j u hj
      rw [Addr.add_lit]
      have hjl : j < ns.length := by
        have := (List.getElem?_eq_some_iff.1 hj).1
        simpa [intsV] using this
      show w.cell? ⟨ad, 0 + j, none⟩ = some u
      rw [Lib.cell_of_heap hxg, Nat.zero_add, ← Array.getElem?_toList, ← hj, ← hx4, List.getElem?_take, if_pos (by omega)]
    have hil : (intsV ns).length = ns.length * 1 := by simp [intsV]
    have h1c : ∀ u ∈ intsV ns, u.oneCell' = true := by
      intro u hu
      simp only [intsV, List.mem_map] at hu
      obtain ⟨z, _, rfl⟩ := hu
      rfl
    have hia : ∀ j, j < ns.length → (intsV ns)[j]? = some (.int .i64 (ns.getD j 0)) := fun j hj => by simp [intsV, List.getElem?_map, List.getD, hj]
    refine wpList_append_arg w hg s x 40 hop 3 i0 (.int .i64 0) 1 8 Tryz.underlying40 hi0 hz0 hz1 hz2 rfl (by decide) g off l.length cap (l.map fun z : Int => Value.int .i64 z) hs (by simp) (fun j u hj => ?_) ⟨ad, 0, none⟩ ns.length xc (intsV ns) hx hil hnews h1c (fun hr j hj => ?_) (by simp only [maxLen]; omega) (by omega) (fun hr => ?_) (fun hr v' w' hown hgr => ?_)
    · have hjl : j < l.length := by
        have := List.getElem?_eq_some_iff.1 hj
        simpa using this.1
      rw [Lib.cell_of_heap hgg, hat j hjl]
      simp [List.getElem?_map, hjl] at hj
      simp [List.getD, hjl, hj]
    · refine ⟨?_, Lib.frozen_of_heap hgg _⟩
      rw [Lib.cell_of_heap hgg]
      simp
      omega
    · rw [Nat.mul_one]
      obtain ⟨cur', k1, k2, k3⟩ := setCells_block g 3 (intsV ns) (off + l.length) w cur hgg (by omega)
      obtain ⟨s1, s2, s3, s4⟩ := setCells_same g (intsV ns) (off + l.length) w
      refine h _ _ (.inr ⟨g, off, cap, cur', by rw [hlm], hPg, k1, by rw [hlm]; exact hr, hc2, by omega, fun j hj => ?_⟩) ⟨s1, s2, s3, by omega, fun k hk hn => setCells_far g _ _ w k (by rintro rfl; exact hn hPg)⟩
      rw [hlm] at hj
      rw [k3]
      by_cases hjl : j < l.length
      · rw [if_neg (by omega), hat j hjl, hget j hjl]
      · obtain ⟨i, rfl⟩ : ∃ i, j = l.length + i := ⟨j - l.length, by omega⟩
        rw [if_pos (by omega), hget2 i (by omega), show off + (l.length + i) - (off + l.length) = i from by omega, hia i (by omega)]
    · refine h v' w' ?_ ⟨hgr.os, hgr.tape, hgr.output, hgr.size, fun k hk _ => hgr.block k hk (by simp)⟩
      rcases hown.2 with ⟨_, h0⟩ | ⟨g', cap', cur', hv', hb', hgg', hcap1, hcap2, hcs, htk⟩
      · omega
      · refine .inr ⟨g', 0, cap', cur', by rw [hlm]; exact hv', hP g' hb', hgg', by rw [hlm]; exact hcap1, hcap2, by omega, fun j hj => ?_⟩
        rw [hlm] at hj
        have e1 : cur'[0 + j]? = cur'.toList[j]? := by simp
        have e2 : cur'.toList[j]? = (cur'.toList.take ((l.length + ns.length) * 1))[j]? := by rw [List.getElem?_take, if_pos (by omega)]
        rw [e1, e2, htk]
        by_cases hjl : j < l.length
        · rw [List.getElem?_append_left (by simpa using hjl), hget j hjl]
          simp [List.getElem?_map, List.getD, hjl]
        · obtain ⟨i, rfl⟩ : ∃ i, j = l.length + i := ⟨j - l.length, by omega⟩
          rw [List.getElem?_append_right (by simp), hget2 i (by omega)]
          have e : l.length + i - (l.map fun z : Int => Value.int .i64 z).length = i := by simp
          rw [e]
          exact hia i (by omega)
end Go.Proofs.YtdihbeffomibeaaGreatDoor
