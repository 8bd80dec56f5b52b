/-
  Plain: an order in which each edge leads on, the least node that can stand at each place.
  Plain: a component has two nodes or more just where there is no order.
  Plain: cycles of a class among dependencies: what is told of them.
  Plain: a told cycle's dependencies are there, lead round, and through no node twice.
-/
import Derived.Test.YtdihbeffomibeaaGreatDoorY11
import Derived.Test.YtdihbeffomibeaaGreatDoorY3
import Derived.Test.YtdihbeffomibeaaGreatDoorY9
import Derived.Test.YtdihbeffomibeaaGreatDoorY10
namespace Go.Proofs.YtdihbeffomibeaaGreatDoor
set_option linter.unusedVariables false
set_option linter.unusedSimpArgs false

/-- v can stand next: it is not placed, and no edge leads to it from a node that is not. -/
def Free (E : Nat → Nat → Bool) (n : Nat) (l : List Nat) (v : Nat) : Prop := v < n ∧ v ∉ l ∧ ∀ m, m < n → m ∉ l → E m v = false
/-- v is the least that can. -/
def Pk (E : Nat → Nat → Bool) (n : Nat) (l : List Nat) (v : Nat) : Prop := Free E n l v ∧ ∀ x, x < v → ¬ Free E n l x
theorem Pk.uniq {E : Nat → Nat → Bool} {n : Nat} {l : List Nat} {v x : Nat} (h : Pk E n l v) (h' : Pk E n l x) : v = x := by
  rcases Nat.lt_trichotomy v x with h1 | h1 | h1
  · exact absurd h.1 (h'.2 v h1)
  · exact h1
  · exact absurd h'.1 (h.2 x h1)
/-- A beginning of the order. -/
def Beg (E : Nat → Nat → Bool) (n : Nat) (l : List Nat) : Prop := ∀ k, k < l.length → Pk E n (l.take k) (l.getD k 0)
theorem Beg.nil (E : Nat → Nat → Bool) (n : Nat) : Beg E n [] := fun k hk => by simp at hk
theorem Beg.snoc {E : Nat → Nat → Bool} {n : Nat} {l : List Nat} {v : Nat} (h : Beg E n l) (hp : Pk E n l v) : Beg E n (l ++ [v]) := by
  intro k hk
  rw [List.length_append, List.length_singleton] at hk
  by_cases hkl : k < l.length
  · have e1 : (l ++ [v]).take k = l.take k := by rw [List.take_append_of_le_length (by omega)]
    have e2 : (l ++ [v]).getD k 0 = l.getD k 0 := by simp [List.getD, List.getElem?_append_left hkl]
    rw [e1, e2]
    exact h k hkl
  · obtain rfl : k = l.length := by omega
    have e1 : (l ++ [v]).take l.length = l := by simp
    have e2 : (l ++ [v]).getD l.length 0 = v := by simp [List.getD]
    rw [e1, e2]
    exact hp
theorem Beg.at {E : Nat → Nat → Bool} {n : Nat} {l : List Nat} (h : Beg E n l) (v : Nat) (hv : v ∈ l) : v < n := by
  obtain ⟨k, hk, rfl⟩ := List.getElem_of_mem hv
  have := (h k hk).1.1
  simpa [List.getD, hk] using this
theorem Beg.nodup {E : Nat → Nat → Bool} {n : Nat} {l : List Nat} (h : Beg E n l) (i j : Nat) (hi : i < j) (hj : j < l.length) : l.getD i 0 ≠ l.getD j 0 := by
  intro e
  have h1 := (h j hj).1.2.1
  apply h1
  rw [← e]
  have hl : i < (l.take j).length := by rw [List.length_take]; omega
  have e2 : (l.take j)[i] = l.getD i 0 := by rw [List.getElem_take]; simp [List.getD, show i < l.length from by omega]
  rw [← e2]
  exact List.getElem_mem hl
/-- Two beginnings of one length are alike. -/
theorem Beg.uniq {E : Nat → Nat → Bool} {n : Nat} {l l' : List Nat} (h : Beg E n l) (h' : Beg E n l') (hl : l.length = l'.length) : l = l' := by
  have key : ∀ k, k ≤ l.length → l.take k = l'.take k := by
    intro k
    induction k with
    | zero => intro _; simp
    | succ k ih =>
      intro hk
      have e := ih (by omega)
      have h1 := h k (by omega)
      have h2 := h' k (by omega)
      rw [← e] at h2
      have e2 := h1.uniq h2
      rw [List.take_succ_eq_append_getElem (by omega), List.take_succ_eq_append_getElem (by omega), e]
      congr 2
      simpa [List.getD, show k < l.length from by omega, show k < l'.length from by omega] using e2
  have h1 := key l.length (Nat.le_refl _)
  rw [List.take_length, hl, List.take_length] at h1
  exact h1
/-- Edges lead on: whatever leads to a placed node is placed ahead of it. -/
theorem Beg.leads {E : Nat → Nat → Bool} {n : Nat} {l : List Nat} (h : Beg E n l) (j : Nat) (hj : j < l.length) (m : Nat) (hm : m < n) (he : E m (l.getD j 0) = true) : ∃ i, i < j ∧ l.getD i 0 = m := by
  have hml : m ∈ l.take j := Classical.byContradiction fun hc => by
    rw [(h j hj).1.2.2 m hm hc] at he
    cases he
  obtain ⟨i, hi, e⟩ := List.getElem_of_mem hml
  have hi2 : i < j ∧ i < l.length := by rw [List.length_take] at hi; omega
  refine ⟨i, hi2.1, ?_⟩
  rw [List.getElem_take] at e
  simp [List.getD, hi2.2, e]
theorem Beg.len {E : Nat → Nat → Bool} {n : Nat} {l : List Nat} (h : Beg E n l) : l.length ≤ n := by
  have hnd : l.Nodup := by
    rw [List.nodup_iff_pairwise_ne, List.pairwise_iff_getElem]
    intro i j hi hj hij
    have := h.nodup i j hij hj
    simpa [List.getD, hi, hj] using this
  have hsub : l ⊆ List.range n := fun v hv => List.mem_range.2 (h.at v hv)
  have := hnd.length_le_of_subset hsub
  simpa using this
/-- Of all nodes each is placed. -/
theorem Beg.all {E : Nat → Nat → Bool} {n : Nat} {l : List Nat} (h : Beg E n l) (hl : l.length = n) (v : Nat) (hv : v < n) : v ∈ l := by
  apply Classical.byContradiction
  intro hc
  have hnd : l.Nodup := by
    rw [List.nodup_iff_pairwise_ne, List.pairwise_iff_getElem]
    intro i j hi hj hij
    have := h.nodup i j hij hj
    simpa [List.getD, hi, hj] using this
  have hnd2 : (v :: l).Nodup := List.nodup_cons.2 ⟨hc, hnd⟩
  have hsub : (v :: l) ⊆ List.range n := fun x hx => by
    rcases List.mem_cons.1 hx with rfl | hx
    · exact List.mem_range.2 hv
    · exact List.mem_range.2 (h.at x hx)
  have := hnd2.length_le_of_subset hsub
  rw [List.length_cons, List.length_range] at this
  omega
/-- What Order answers: all nodes; or it stands still. -/
def IsOrder (E : Nat → Nat → Bool) (n : Nat) (l : List Nat) (ok : Bool) : Prop :=
  (ok = true ∧ Beg E n l ∧ l.length = n) ∨ (ok = false ∧ l = [] ∧ ∃ l', Beg E n l' ∧ l'.length < n ∧ ∀ v, ¬ Free E n l' v)
theorem Beg.take {E : Nat → Nat → Bool} {n : Nat} {l : List Nat} (h : Beg E n l) (k : Nat) (hk : k ≤ l.length) : Beg E n (l.take k) := by
  intro j hj
  rw [List.length_take] at hj
  have e1 : (l.take k).take j = l.take j := by rw [List.take_take]; congr 1; omega
  have e2 : (l.take k).getD j 0 = l.getD j 0 := by simp [List.getD, List.getElem?_take, show j < k from by omega]
  rw [e1, e2]
  exact h j (by omega)
theorem IsOrder.uniq {E : Nat → Nat → Bool} {n : Nat} {l l' : List Nat} {ok ok' : Bool} (h : IsOrder E n l ok) (h' : IsOrder E n l' ok') : l = l' ∧ ok = ok' := by
  have key : ∀ {a b : List Nat}, Beg E n a → a.length = n → Beg E n b → b.length < n → ¬ ∀ v, ¬ Free E n b v := by
    intro a b ha hl hb hlt hno
    have h1 := ha.take b.length (by omega)
    have e : a.take b.length = b := h1.uniq hb (by rw [List.length_take]; omega)
    have h2 := ha b.length (by omega)
    rw [e] at h2
    exact hno _ h2.1
  rcases h with ⟨rfl, h1, h2⟩ | ⟨rfl, rfl, b, h1, h2, h3⟩
  · rcases h' with ⟨rfl, k1, k2⟩ | ⟨rfl, rfl, b, k1, k2, k3⟩
    · exact ⟨h1.uniq k1 (by omega), rfl⟩
    · exact absurd k3 (key h1 h2 k1 k2)
  · rcases h' with ⟨rfl, k1, k2⟩ | ⟨rfl, rfl, b', k1, k2, k3⟩
    · exact absurd h3 (key k1 k2 h1 h2)
    · exact ⟨rfl, rfl⟩
end Go.Proofs.YtdihbeffomibeaaGreatDoor
namespace Go.Proofs.YtdihbeffomibeaaGreatDoor
set_option linter.unusedVariables false
set_option linter.unusedSimpArgs false

section
variable {E : Nat → Nat → Bool} {n : Nat}
/-- A component has two nodes or more. -/
def great (cs : List (List Nat)) : Bool := cs.any fun c => decide (1 < c.length)
theorem great_iff {cs : List (List Nat)} (h : IsComps E n cs) : great cs = true ↔ ∃ u v, u ≠ v ∧ u < n ∧ v < n ∧ Rs E n u v ∧ Rs E n v u := by
  unfold great
  rw [List.any_eq_true]
  constructor
  · rintro ⟨c, hc, h1⟩
    have h1 : 1 < c.length := of_decide_eq_true h1
    obtain ⟨hs, x, hx, h2⟩ := h.1 c hc
    obtain ⟨a, b, l, rfl⟩ : ∃ a b l, c = a :: b :: l := by
      match c, h1 with
      | a :: b :: l, _ => exact ⟨a, b, l, rfl⟩
    have ha := (h2 a).1 (by simp)
    have hb := (h2 b).1 (by simp)
    have hab : a < b := (List.pairwise_cons.1 hs).1 b (by simp)
    exact ⟨a, b, by omega, ha.1, hb.1, ha.2.2.trans hb.2.1, hb.2.2.trans ha.2.1⟩
  · rintro ⟨u, v, huv, hu, hv, r1, r2⟩
    obtain ⟨c, hc, huc⟩ := h.2.1 u hu
    obtain ⟨hs, x, hx, h2⟩ := h.1 c hc
    have ha := (h2 u).1 huc
    have hvc : v ∈ c := (h2 v).2 ⟨hv, ha.2.1.trans r1, r2.trans ha.2.2⟩
    refine ⟨c, hc, decide_eq_true ?_⟩
    match c, huc, hvc with
    | [a], h3, h4 =>
      simp at h3 h4
      omega
    | a :: b :: l, _, _ => simp
theorem Beg.rs {l : List Nat} (h : Beg E n l) : ∀ {r : List Nat} {u : Nat} (j : Nat), u < n → Wl E n u r (l.getD j 0) → j < l.length → r ≠ [] → ∃ i, i < j ∧ l.getD i 0 = u := by
  intro r
  induction r using snocRec with
  | h0 => intro u j _ _ _ hr; exact absurd rfl hr
  | h1 r x ih =>
    intro u j hu hw hj _
    obtain ⟨y, w1, w2, w3, e⟩ := Wl.snoc.1 hw
    subst e
    have hy : y < n := by
      by_cases hr : r = []
      · subst hr; cases w1; exact hu
      · exact w1.last hr
    obtain ⟨i, hi, ei⟩ := h.leads j hj y hy w2
    by_cases hr : r = []
    · subst hr
      cases w1
      exact ⟨i, hi, ei⟩
    · rw [← ei] at w1
      obtain ⟨i2, hi2, e2⟩ := ih i hu w1 (by omega) hr
      exact ⟨i2, by omega, e2⟩
/-- In an order nothing leads back. -/
theorem Beg.noBack {l : List Nat} (h : Beg E n l) (hl : l.length = n) {u v : Nat} (hu : u < n) (hv : v < n) (huv : u ≠ v) (r1 : Rs E n u v) (r2 : Rs E n v u) : False := by
  have key : ∀ a b, a < n → b < n → a ≠ b → Rs E n a b → ∀ j, j < l.length → l.getD j 0 = b → ∃ i, i < j ∧ l.getD i 0 = a := fun a b ha hb hab ⟨r, hr⟩ j hj e => by
    refine h.rs (r := r) j ha (by rw [e]; exact hr) hj ?_
    rintro rfl
    exact hab hr
  obtain ⟨j, hj, ej⟩ := List.getElem_of_mem (h.all hl v hv)
  have ej' : l.getD j 0 = v := by simp [List.getD, hj, ej]
  obtain ⟨i, hi, ei⟩ := key u v hu hv huv r1 j hj ej'
  obtain ⟨k, hk, ek⟩ := key v u hv hu (fun e => huv e.symm) r2 i (by omega) ei
  exact h.nodup k j (by omega) hj (by rw [ek, ej'])
/-- Where each of some nodes has one of them ahead of it, two lead to one another. -/
theorem back_loop {U : Nat → Prop} (hU : ∀ v, U v → v < n) (hE : ∀ f, E f f = false) (hp : ∀ v, U v → ∃ m, U m ∧ E m v = true) {v0 : Nat} (h0 : U v0) : ∃ u v, u ≠ v ∧ u < n ∧ v < n ∧ Rs E n u v ∧ Rs E n v u := by
  obtain ⟨p, hp2⟩ : ∃ p : Nat → Nat, ∀ v, U v → U (p v) ∧ E (p v) v = true := ⟨fun v => Classical.epsilon fun m => U m ∧ E m v = true, fun v hv => Classical.epsilon_spec (hp v hv)⟩
  obtain ⟨f, hf0, hfs⟩ : ∃ f : Nat → Nat, f 0 = v0 ∧ ∀ k, f (k + 1) = p (f k) := ⟨fun k => Nat.rec v0 (fun _ x => p x) k, rfl, fun _ => rfl⟩
  have hfU : ∀ k, U (f k) := fun k => by
    induction k with
    | zero => rw [hf0]; exact h0
    | succ k ih => rw [hfs]; exact (hp2 _ ih).1
  have hfE : ∀ k, E (f (k + 1)) (f k) = true := fun k => by rw [hfs]; exact (hp2 _ (hfU k)).2
  have hdown : ∀ d k, Rs E n (f (k + d)) (f k) := fun d k => by
    induction d with
    | zero => exact Rs.refl _ _ _
    | succ d ih => exact (Rs.edge (hfE (k + d)) (hU _ (hfU _))).trans ih
  have hdup : ¬ ((List.range (n + 1)).map f).Nodup := fun hnd => by
    have := len_of_sub (n := n) hnd (fun v hv => by
      obtain ⟨k, _, rfl⟩ := List.mem_map.1 hv
      exact hU _ (hfU k))
    simp at this
    omega
  obtain ⟨i, j, hij, e⟩ : ∃ i j, i < j ∧ f i = f j := by
    refine Classical.byContradiction fun hc => hdup ?_
    rw [List.nodup_iff_pairwise_ne, List.pairwise_map]
    refine List.pairwise_lt_range.imp (fun {a b} hab e => hc ⟨a, b, hab, e⟩)
  refine ⟨f (i + 1), f i, fun e2 => ?_, hU _ (hfU _), hU _ (hfU _), Rs.edge (hfE i) (hU _ (hfU _)), ?_⟩
  · have := hfE i
    rw [e2, hE] at this
    cases this
  · rw [e]
    have := hdown (j - (i + 1)) (i + 1)
    rwa [show i + 1 + (j - (i + 1)) = j by omega] at this
theorem IsOrder.great {l : List Nat} {ok : Bool} {cs : List (List Nat)} (h : IsOrder E n l ok) (hc : IsComps E n cs) (hE : ∀ f, E f f = false) : Go.Proofs.YtdihbeffomibeaaGreatDoor.great cs = !ok := by
  rw [Bool.eq_iff_iff, great_iff hc]
  rcases h with ⟨rfl, h1, h2⟩ | ⟨rfl, rfl, l', h1, h2, h3⟩
  · refine ⟨?_, fun h => by cases h⟩
    rintro ⟨u, v, huv, hu, hv, r1, r2⟩
    exact (h1.noBack h2 hu hv huv r1 r2).elim
  · refine ⟨fun _ => rfl, fun _ => ?_⟩
    obtain ⟨v0, hv0, hn0⟩ : ∃ v, v < n ∧ v ∉ l' := by
      refine Classical.byContradiction fun hc2 => ?_
      have hsub : List.range n ⊆ l' := fun v hv => Classical.byContradiction fun hn => hc2 ⟨v, List.mem_range.1 hv, hn⟩
      have := List.nodup_range.length_le_of_subset hsub
      simp at this
      omega
    refine back_loop (U := fun v => v < n ∧ v ∉ l') (fun v hv => hv.1) hE (fun v hv => ?_) ⟨hv0, hn0⟩
    refine Classical.byContradiction fun hc2 => h3 v ⟨hv.1, hv.2, fun m hm hml => ?_⟩
    cases hE2 : E m v with
    | false => rfl
    | true => exact absurd ⟨m, ⟨hm, hml⟩, hE2⟩ hc2
end
end Go.Proofs.YtdihbeffomibeaaGreatDoor
namespace Go.Proofs.YtdihbeffomibeaaGreatDoor
set_option linter.unusedVariables false
set_option linter.unusedSimpArgs false
open Go.RowKit

/-- The label that a class wants, and those that the others may have. -/
def wantN (c : Int) : Nat := if c = 8 then 1 else if c = 9 then 2 else if c = 10 then 4 else if c = 11 then 4 else 0
def othN (c : Int) (real : Bool) : Nat := (if c = 8 then 1 else if c = 9 then 3 else if c = 10 then 3 else if c = 11 then 7 else 0) + (if real then 8 else 0)
def isCl (c : Int) : Prop := c = 8 ∨ c = 9 ∨ c = 10 ∨ c = 11
def one4 (x : Int) : Prop := x = 1 ∨ x = 2 ∨ x = 4 ∨ x = 8
/-- The lowest bit of a number. -/
def lowb (m : Nat) : Nat := if m % 2 = 1 then 1 else if m / 2 % 2 = 1 then 2 else if m / 4 % 2 = 1 then 4 else if m / 8 % 2 = 1 then 8 else 0
theorem wantN_lt (c : Int) : wantN c < 16 := by unfold wantN; split <;> (try split) <;> (try split) <;> (try split) <;> decide
theorem othN_lt (c : Int) (r : Bool) : othN c r < 16 := by unfold othN; split <;> (try split) <;> (try split) <;> (try split) <;> cases r <;> decide

/-- An edge by its labels. -/
theorem edge_iff (L : Nat → Nat → Nat) (o : Nat) (ho : o < 16) (u v : Nat) (hx : L u v < 16) : edge L (o : Int) u v = true ↔ L u v &&& o ≠ 0 := by
  have h := ends_and L u v (o : Int) hx
  rw [i64_and_low (L u v) hx (o : Int)] at h
  have e : ((o : Int) % 16).toNat = o := by omega
  rw [e] at h
  unfold edge
  constructor
  · intro h1 h2
    rw [h1, h2] at h
    simp at h
  · intro h1
    cases hb : endsF L u (o : Int) 4 v with
    | true => rfl
    | false =>
      rw [hb] at h
      simp at h
      exact absurd h (by omega)

/-- The first edge of one kind whose end leads back by the others. -/
structure FstC (E1 E2 : Nat → Nat → Bool) (n F T : Nat) : Prop where
  f : F < n
  t : T < n
  e : E1 F T = true
  back : ∃ r, r ≠ [] ∧ Wl E2 n T r F
  first : ∀ F' T', F' < n → T' < n → (F' < F ∨ F' = F ∧ T' < T) → E1 F' T' = true → ∀ r, r ≠ [] → ¬ Wl E2 n T' r F'
/-- No such edge. -/
def NoC (E1 E2 : Nat → Nat → Bool) (n : Nat) : Prop := ∀ F T, F < n → T < n → E1 F T = true → ∀ r, r ≠ [] → ¬ Wl E2 n T r F
theorem FstC.uniq {E1 E2 : Nat → Nat → Bool} {n F T F' T' : Nat} (h : FstC E1 E2 n F T) (g : FstC E1 E2 n F' T') : F = F' ∧ T = T' := by
  obtain ⟨r, hr, hw⟩ := h.back
  obtain ⟨r', hr', hw'⟩ := g.back
  by_cases h1 : F' < F ∨ F' = F ∧ T' < T
  · exact absurd hw' (h.first F' T' g.f g.t h1 g.e r' hr')
  · by_cases h2 : F < F' ∨ F = F' ∧ T < T'
    · exact absurd hw (g.first F T h.f h.t h2 h.e r hr)
    · omega
theorem FstC.no {E1 E2 : Nat → Nat → Bool} {n F T : Nat} (h : FstC E1 E2 n F T) (g : NoC E1 E2 n) : False := by
  obtain ⟨r, hr, hw⟩ := h.back
  exact g F T h.f h.t h.e r hr hw

/-- The cycle's nodes, the first one again at the end. -/
abbrev ndC (F T : Nat) (q : List Nat) (i : Nat) : Nat := (F :: T :: q).getD i 0
/-- The label of a cycle's dependency. -/
def labC (L : Nat → Nat → Nat) (want o : Nat) (F T : Nat) (q : List Nat) (i : Nat) : Nat := if i = 0 then want else lowb (L (ndC F T q i) (ndC F T q (i + 1)) &&& o)
/-- The first k dependencies of the cycle. -/
def PartC (f : Nat → MW) (m : Nat) (L : Nat → Nat → Nat) (want o : Nat) (F T : Nat) (q : List Nat) (k : Nat) (g : Nat → MW) : Prop :=
  ∀ i, i < k → ∃ ok, IsFind f m (ndC F T q i) (ndC F T q (i + 1)) (labC L want o F T q i) (g i) ok
theorem PartC.uniq {f : Nat → MW} {m : Nat} {L : Nat → Nat → Nat} {want o F T : Nat} {q : List Nat} {k : Nat} {g g' : Nat → MW} (h : PartC f m L want o F T q k g) (h' : PartC f m L want o F T q k g') : ∀ i, i < k → g i = g' i := fun i hi => by
  obtain ⟨ok, h1⟩ := h i hi
  obtain ⟨ok', h2⟩ := h' i hi
  exact (h1.one h2).1
theorem PartC.congr {f : Nat → MW} {m : Nat} {L : Nat → Nat → Nat} {want o F T : Nat} {q : List Nat} {k : Nat} {g g' : Nat → MW} (h : PartC f m L want o F T q k g) (he : ∀ i, i < k → g' i = g i) : PartC f m L want o F T q k g' := fun i hi => by
  rw [he i hi]
  exact h i hi
/-- What is told: the cycle g of k dependencies, or none. -/
def TellC (f : Nat → MW) (m : Nat) (n : Nat) (want o : Nat) (k : Nat) (g : Nat → MW) (ok : Bool) : Prop :=
  (ok = true ∧ ∃ F T q, FstC (edge (gL f m) (want : Int)) (edge (gL f m) (o : Int)) n F T ∧ Best (edge (gL f m) (o : Int)) n T F q ∧ q.length ≤ n ∧ k = q.length + 1 ∧ PartC f m (gL f m) want o F T q k g) ∨
  (ok = false ∧ k = 0 ∧ NoC (edge (gL f m) (want : Int)) (edge (gL f m) (o : Int)) n)
theorem TellC.uniq {f : Nat → MW} {m n want o k k' : Nat} {g g' : Nat → MW} {ok ok' : Bool} (h : TellC f m n want o k g ok) (h' : TellC f m n want o k' g' ok') : ok = ok' ∧ k = k' ∧ ∀ i, i < k → g i = g' i := by
  rcases h with ⟨rfl, F, T, q, h1, h2, hq, rfl, h3⟩ | ⟨rfl, rfl, h1⟩
  · rcases h' with ⟨rfl, F', T', q', g1, g2, hq', rfl, g3⟩ | ⟨rfl, rfl, g1⟩
    · obtain ⟨rfl, rfl⟩ := h1.uniq g1
      obtain rfl := h2.uniq h1.t g2
      exact ⟨rfl, rfl, h3.uniq g3⟩
    · exact (h1.no g1).elim
  · rcases h' with ⟨rfl, F', T', q', g1, g2, hq', rfl, g3⟩ | ⟨rfl, rfl, g1⟩
    · exact (g1.no h1).elim
    · exact ⟨rfl, rfl, fun i hi => by omega⟩
/-- Where nothing is asked of the dependencies. -/
def Bars (f : Nat → MW) (m : Nat) (N : Int) (c : Int) : Prop := ¬ isCl c ∨ (∃ i, i < m ∧ ¬ one4 (f i).lab) ∨ N < 0 ∨ 300 < N ∨ ∃ n : Nat, N = n ∧ ∃ i, i < m ∧ whyW n (f i) ≠ 0
/-- What Find tells of any numbers. -/
def TellA (f : Nat → MW) (m : Nat) (N c : Int) (real : Bool) (k : Nat) (g : Nat → MW) (ok : Bool) : Prop :=
  (Bars f m N c ∧ ok = false ∧ k = 0) ∨ (¬ Bars f m N c ∧ ∃ n : Nat, N = n ∧ n ≤ 300 ∧ TellC f m n (wantN c) (othN c real) k g ok)
theorem TellA.uniq {f : Nat → MW} {m : Nat} {N c : Int} {real : Bool} {k k' : Nat} {g g' : Nat → MW} {ok ok' : Bool} (h : TellA f m N c real k g ok) (h' : TellA f m N c real k' g' ok') : ok = ok' ∧ k = k' ∧ ∀ i, i < k → g i = g' i := by
  rcases h with ⟨h0, rfl, rfl⟩ | ⟨h0, n, e, hn, h1⟩
  · rcases h' with ⟨g0, rfl, rfl⟩ | ⟨g0, n', e', hn', g1⟩
    · exact ⟨rfl, rfl, fun i hi => by omega⟩
    · exact (g0 h0).elim
  · rcases h' with ⟨g0, rfl, rfl⟩ | ⟨g0, n', e', hn', g1⟩
    · exact (h0 g0).elim
    · obtain rfl : n = n' := by omega
      exact h1.uniq g1
theorem or_up {want o x z : Nat} (hxe : x = want ||| o) (h : z &&& want ≠ 0 ∨ z &&& o ≠ 0) : z &&& x ≠ 0 := by
  intro e
  rw [hxe, Nat.and_or_distrib_left, Nat.or_eq_zero_iff] at e
  rcases h with h | h
  · exact h e.1
  · exact h e.2
theorem edge_up {L : Nat → Nat → Nat} {want o x : Nat} (hw : want < 16) (ho : o < 16) (hx : x < 16) (hxe : x = want ||| o) (hs : ∀ f t, L f t < 16) (u v : Nat) (h : edge L (want : Int) u v = true ∨ edge L (o : Int) u v = true) : edge L (x : Int) u v = true := by
  refine (edge_iff L x hx u v (hs u v)).2 (or_up hxe ?_)
  rcases h with h | h
  · exact .inl ((edge_iff L want hw u v (hs u v)).1 h)
  · exact .inr ((edge_iff L o ho u v (hs u v)).1 h)
theorem Wl.up {E E' : Nat → Nat → Bool} {n t : Nat} (h : ∀ u v, E u v = true → E' u v = true) : ∀ (r : List Nat) (s : Nat), Wl E n s r t → Wl E' n s r t := by
  intro r
  induction r with
  | nil => intro s h; exact h
  | cons a r ih => rintro s ⟨h1, h2, h3⟩; exact ⟨h _ _ h1, h2, ih _ h3⟩
theorem edge_diag {L : Nat → Nat → Nat} {want : Nat} (hw : want < 16) (hs : ∀ f t, L f t < 16) (hd : ∀ f, L f f = 0) {F T : Nat} (h : edge L (want : Int) F T = true) : F ≠ T := by
  intro e
  subst e
  have := (edge_iff L want hw F F (hs F F)).1 h
  rw [hd, Nat.zero_and] at this
  exact this rfl
/-- Without a cycle by all labels there is none of the class. -/
theorem noC_of_great {L : Nat → Nat → Nat} {n : Nat} {want o x : Nat} {cs : List (List Nat)} (hw : want < 16) (ho : o < 16) (hx : x < 16) (hxe : x = want ||| o) (hs : ∀ f t, L f t < 16) (hd : ∀ f, L f f = 0) (h : IsComps (edge L (x : Int)) n cs) (hg : great cs = false) : NoC (edge L (want : Int)) (edge L (o : Int)) n := by
  intro F T hF hT he r hr hwl
  have hne := edge_diag hw hs hd he
  have e1 : Rs (edge L (x : Int)) n F T := Rs.edge (edge_up hw ho hx hxe hs F T (.inl he)) hT
  have e2 : Rs (edge L (x : Int)) n T F := ⟨r, Wl.up (fun u v a => edge_up hw ho hx hxe hs u v (.inr a)) r T hwl⟩
  have : great cs = true := (great_iff h).2 ⟨F, T, hne, hF, hT, e1, e2⟩
  rw [hg] at this
  cases this
end Go.Proofs.YtdihbeffomibeaaGreatDoor
namespace Go.Proofs.YtdihbeffomibeaaGreatDoor
set_option linter.unusedVariables false
set_option linter.unusedSimpArgs false
open Go.RowKit

theorem gL_bit (f : Nat → MW) (F T i : Nat) (hi : i < 4) : ∀ m, (gL f m F T).testBit i = true ↔ ∃ j, j < m ∧ (f j).src.toNat = F ∧ (f j).dst.toNat = T ∧ ((f j).lab.toNat).testBit i = true
  | 0 => by
    constructor
    · intro h; simp [gL] at h
    · rintro ⟨j, h, _⟩; omega
  | m + 1 => by
    show (addL (gL f m) (f m).src.toNat (f m).dst.toNat (f m).lab.toNat 4 F T).testBit i = true ↔ _
    rw [addL_bit, Bool.or_eq_true, gL_bit f F T i hi m, Bool.and_eq_true, decide_eq_true_eq]
    constructor
    · rintro (⟨j, h1, h2⟩ | ⟨⟨h1, h2, h3⟩, h4⟩)
      · exact ⟨j, by omega, h2⟩
      · exact ⟨m, by omega, h1.symm, h2.symm, h4⟩
    · rintro ⟨j, h1, h2, h3, h4⟩
      by_cases hj : j = m
      · subst hj; exact .inr ⟨⟨h2.symm, h3.symm, hi⟩, h4⟩
      · exact .inl ⟨j, by omega, h2, h3, h4⟩
theorem gL_16 (f : Nat → MW) (hw : ∀ j, ((f j).lab.toNat) < 16 ∨ True) : ∀ m F T, gL f m F T < 16 := by
  intro m
  induction m with
  | zero => intro F T; show 0 < 16; decide
  | succ m ih =>
    intro F T
    show addL (gL f m) _ _ _ 4 F T < 16
    unfold addL
    split
    · exact Nat.or_lt_two_pow (n := 4) (ih F T) (by unfold low; exact Nat.mod_lt _ (by decide))
    · exact ih F T
theorem gL_diag {f : Nat → MW} {m n : Nat} (hwhy : ∀ j, j < m → whyW n (f j) = 0) (F : Nat) : gL f m F F = 0 := by
  apply Nat.eq_of_testBit_eq
  intro i
  rw [Nat.zero_testBit]
  by_cases hi : i < 4
  · cases hb : (gL f m F F).testBit i with
    | false => rfl
    | true =>
      obtain ⟨j, hj, h1, h2, _⟩ := (gL_bit f F F i hi m).1 hb
      obtain ⟨a, b, c, e1, e2, _, _, _, _, _, hne⟩ := why_zero (hwhy j hj)
      rw [e1, Int.toNat_natCast] at h1
      rw [e2, Int.toNat_natCast] at h2
      omega
  · exact Nat.testBit_lt_two_pow (Nat.lt_of_lt_of_le (gL_16 f (fun _ => .inr trivial) m F F) (Nat.pow_le_pow_right (n := 2) (by decide) (by omega : 4 ≤ i)))
theorem low_one : ∀ x : Nat, x < 16 → (x = 1 ∨ x = 2 ∨ x = 4 ∨ x = 8) → ∃ i, i < 4 ∧ x = 2 ^ i := fun x _ h => by
  rcases h with rfl | rfl | rfl | rfl
  · exact ⟨0, by decide, rfl⟩
  · exact ⟨1, by decide, rfl⟩
  · exact ⟨2, by decide, rfl⟩
  · exact ⟨3, by decide, rfl⟩
theorem and_pow : ∀ y, y < 16 → ∀ i, i < 4 → (y &&& 2 ^ i ≠ 0 ↔ y.testBit i = true) := by decide +kernel
theorem bit_one : ∀ i, i < 4 → ∀ j, j < 4 → ((2 ^ j).testBit i = true → j = i) := by decide +kernel
theorem lowb_spec : ∀ m, m < 16 → m ≠ 0 → (lowb m = 1 ∨ lowb m = 2 ∨ lowb m = 4 ∨ lowb m = 8) ∧ m &&& lowb m ≠ 0 := by decide +kernel
theorem lowb_and : ∀ x, x < 16 → ∀ o, o < 16 → x &&& o ≠ 0 → x &&& lowb (x &&& o) ≠ 0 ∧ lowb (x &&& o) &&& o ≠ 0 := by decide +kernel
theorem lowb_lt : ∀ m, m < 16 → lowb m < 16 := by decide +kernel

/-- A label that an edge has, a dependency has. -/
theorem label_there {f : Nat → MW} {m n : Nat} (hone : ∀ j, j < m → one4 (f j).lab) (hwhy : ∀ j, j < m → whyW n (f j) = 0) {F T x : Nat} (hx : x = 1 ∨ x = 2 ∨ x = 4 ∨ x = 8) (h : gL f m F T &&& x ≠ 0) : ∃ j, j < m ∧ mt f F T x j := by
  obtain ⟨i, hi, rfl⟩ := low_one x (by omega) hx
  have hb := (and_pow _ (gL_16 f (fun _ => .inr trivial) m F T) i hi).1 h
  obtain ⟨j, hj, h1, h2, h3⟩ := (gL_bit f F T i hi m).1 hb
  obtain ⟨a, b, c, e1, e2, e3, _⟩ := why_zero (hwhy j hj)
  have ho := hone j hj
  rw [e3] at h3 ho
  rw [Int.toNat_natCast] at h3
  have hc : c = 1 ∨ c = 2 ∨ c = 4 ∨ c = 8 := by unfold one4 at ho; omega
  obtain ⟨i', hi', rfl⟩ := low_one c (by omega) hc
  obtain rfl := bit_one i hi i' hi' h3
  exact ⟨j, hj, by rw [← h1, e1]; simp, by rw [← h2, e2]; simp, e3⟩
theorem IsFind.found {f : Nat → MW} {m : Nat} {a b c : Int} {x : MW} {ok : Bool} (h : IsFind f m a b c x ok) (hj : ∃ j, j < m ∧ mt f a b c j) : ok = true ∧ ∃ j, j < m ∧ mt f a b c j ∧ x = f j := by
  rcases h with ⟨k, h1, h2, _, _, h3, h4⟩ | ⟨_, ⟨k, h1, h2, _, h3, h4⟩ | ⟨h1, _⟩⟩
  · exact ⟨h4, k, h1, h2, h3⟩
  · exact ⟨h4, k, h1, h2, h3⟩
  · obtain ⟨j, hj, hm⟩ := hj
    exact absurd hm (h1 j hj)

/-- Each dependency of a told cycle is one of those that were handed in, leads on, and has its label. -/
theorem PartC.there {f : Nat → MW} {m n : Nat} {want o F T : Nat} {q : List Nat} {g : Nat → MW} (hone : ∀ j, j < m → one4 (f j).lab) (hwhy : ∀ j, j < m → whyW n (f j) = 0)
    (hw1 : want = 1 ∨ want = 2 ∨ want = 4 ∨ want = 8) (ho : o < 16) (hF : FstC (edge (gL f m) (want : Int)) (edge (gL f m) (o : Int)) n F T) (hB : Best (edge (gL f m) (o : Int)) n T F q) (h : PartC f m (gL f m) want o F T q (q.length + 1) g) :
    ∀ i, i < q.length + 1 → ∃ j, j < m ∧ g i = f j ∧ (f j).src = (ndC F T q i : Nat) ∧ (f j).dst = (ndC F T q (i + 1) : Nat) ∧ (f j).lab = (labC (gL f m) want o F T q i : Nat) ∧ (i ≠ 0 → labC (gL f m) want o F T q i &&& o ≠ 0) := by
  intro i hi
  have h16 := gL_16 f (fun _ => .inr trivial) m
  obtain ⟨ok, h1⟩ := h i hi
  have key : (labC (gL f m) want o F T q i = 1 ∨ labC (gL f m) want o F T q i = 2 ∨ labC (gL f m) want o F T q i = 4 ∨ labC (gL f m) want o F T q i = 8) ∧ gL f m (ndC F T q i) (ndC F T q (i + 1)) &&& labC (gL f m) want o F T q i ≠ 0 ∧ (i ≠ 0 → labC (gL f m) want o F T q i &&& o ≠ 0) := by
    by_cases h0 : i = 0
    · subst h0
      refine ⟨by simpa [labC] using hw1, ?_, fun e => absurd rfl e⟩
      have := (edge_iff (gL f m) want (by omega) F T (h16 F T)).1 hF.e
      simpa [labC, ndC] using this
    · obtain ⟨i, rfl⟩ : ∃ i', i = i' + 1 := ⟨i - 1, by omega⟩
      have al := (Wl.along q T hF.t hB.2.1).1 i (by omega)
      have e1 : ndC F T q (i + 1) = (T :: q).getD i 0 := by simp [ndC]
      have e2 : ndC F T q (i + 1 + 1) = q.getD i 0 := by simp [ndC]
      have hne := (edge_iff (gL f m) o ho _ _ (h16 _ _)).1 al.1
      unfold labC
      rw [if_neg (by omega), e1, e2]
      have hlt : gL f m ((T :: q).getD i 0) (q.getD i 0) &&& o < 16 := Nat.lt_of_le_of_lt Nat.and_le_left (h16 _ _)
      have l1 := lowb_spec _ hlt hne
      have l2 := lowb_and _ (h16 _ _) o ho hne
      exact ⟨l1.1, l2.1, fun _ => l2.2⟩
  obtain ⟨_, j, hj, hm, hx⟩ := h1.found (label_there hone hwhy key.1 key.2.1)
  exact ⟨j, hj, hx, hm.1, hm.2.1, hm.2.2, key.2.2⟩
theorem ndC_lt {E1 E2 : Nat → Nat → Bool} {n F T : Nat} {q : List Nat} (hF : FstC E1 E2 n F T) (hB : Best E2 n T F q) (i : Nat) (hi : i < q.length + 2) : ndC F T q i < n := by
  match i, hi with
  | 0, _ => exact hF.f
  | 1, _ => exact hF.t
  | i + 2, hi =>
    have h := ((Wl.along q T hF.t hB.2.1).1 i (by omega)).2.1
    simpa [ndC] using h
/-- Its nodes are unlike. -/
theorem ndC_inj {E : Nat → Nat → Bool} {n F T : Nat} {q : List Nat} (hT : T < n) (hne : F ≠ T) (hB : Best E n T F q) : ∀ i j, i < j → j < q.length + 1 → ndC F T q i ≠ ndC F T q j := by
  obtain ⟨s1, s2⟩ := hB.simple hT
  have s2 := s2 (fun e => hne e.symm)
  have hl := (Wl.along q T hT hB.2.1).2
  have hq : 0 < q.length := List.length_pos_iff.2 hB.1
  intro i j hij hj
  obtain ⟨j, rfl⟩ : ∃ j', j = j' + 1 := ⟨j - 1, by omega⟩
  have e2 : ndC F T q (j + 1) = (T :: q).getD j 0 := by simp [ndC]
  have last : ∀ k, k < q.length → k + 1 = q.length → q.getD k 0 = F := fun k hk hk2 => by
    rw [← hk2] at hl
    simpa using hl
  rw [e2]
  by_cases h0 : i = 0
  · subst h0
    show F ≠ _
    by_cases hj0 : j = 0
    · subst hj0; simpa using hne
    · obtain ⟨j, rfl⟩ : ∃ j', j = j' + 1 := ⟨j - 1, by omega⟩
      have e3 : (T :: q).getD (j + 1) 0 = q.getD j 0 := by simp
      rw [e3, ← last (q.length - 1) (by omega) (by omega)]
      exact (s1 j (q.length - 1) (by omega) (by omega)).symm
  · obtain ⟨i, rfl⟩ : ∃ i', i = i' + 1 := ⟨i - 1, by omega⟩
    have e1 : ndC F T q (i + 1) = (T :: q).getD i 0 := by simp [ndC]
    rw [e1]
    obtain ⟨j, rfl⟩ : ∃ j', j = j' + 1 := ⟨j - 1, by omega⟩
    have e3 : (T :: q).getD (j + 1) 0 = q.getD j 0 := by simp
    rw [e3]
    by_cases hi0 : i = 0
    · subst hi0
      exact (s2 j (by omega)).symm
    · obtain ⟨i, rfl⟩ : ∃ i', i = i' + 1 := ⟨i - 1, by omega⟩
      have e4 : (T :: q).getD (i + 1) 0 = q.getD i 0 := by simp
      rw [e4]
      exact s1 i j (by omega) (by omega)
end Go.Proofs.YtdihbeffomibeaaGreatDoor
