/-
  The search for components: how a search in memory grows and shrinks.
  reached: which nodes edges with some labels lead to from a node.
  A range over a function whose rounds are known ahead, one by one.
  slices.Values of numbers, and slices.Sorted of that.
-/
import Derived.Test.YtdihbeffomibeaaGreatDoorY13
import Derived.Test.YtdihbeffomibeaaGreatDoorY7
import Derived.RangeFuncNested
import Derived.RangeFuncBound
import Derived.RangeFuncCalls
import Derived.RangeFuncLeaves
import Derived.Shelf.Abstract
import Derived.Shelf.RegionOpen
import Derived.WalkKit
import Derived.OwnWalkIn
import Derived.TacticsInMore
import Derived.LoopNIn
import Derived.LoopIn
import Derived.Test.YtdihbeffomibeaaGreatDoorProg
namespace Go.Proofs.YtdihbeffomibeaaGreatDoor
set_option linter.unusedVariables false
set_option linter.unusedSimpArgs false
open Go.RowKit

theorem gro_of_grown {w w' : World} {row : Option Nat} (h : w.grownBy w' row) : Gro (fun k => row = some k) w w' := ⟨h.os, h.tape, h.output, h.size, fun k hk hn => h.block k hk (fun e => hn e.symm)⟩
theorem part_mono {P Q : Nat → Prop} {w : World} {v : Value} {l : List Int} (h : Part P w v l) (hpq : ∀ g, g < w.heap.size → P g → Q g) : Part Q w v l := by
  rcases h with h | ⟨g, off, cap, cur, h1, h2, h3, h4⟩
  · exact .inl h
  · exact .inr ⟨g, off, cap, cur, h1, hpq g (blt h3) h2, h3, h4⟩
section
variable {w w4 : World} {H sb mk : Nat} {outf wv ov fv : Value} {n come : Nat} {num low : Nat → Nat} {ws : List Stp} {opn : List Nat} {fs : List (List Nat × Value)}
/-- Blocks that are none of the search's own may turn. -/
theorem Sr.comes (h : Sr w H sb mk outf wv ov fv n come num low ws opn fs) (x : Nat) : Sr (w.setCell ⟨sb, 2, none⟩ (.int .i64 x)) H sb mk outf wv ov fv n x num low ws opn fs := by
  have hg := gro_set w ⟨sb, 2, none⟩ (.int .i64 x)
  have ha := h.apart
  exact ⟨Go.Joins.block_setCell h.box _, h.marks.gro hg (fun e => ha.1 e.symm), own_set h.wayR sb 2 _ h.box (by decide), fun p hp => part_set (h.rests p hp) sb 2 _ h.box (by decide), own_set h.opnR sb 2 _ h.box (by decide), own_set h.fndR sb 2 _ h.box (by decide), fun p hp => part_set (h.cmps p hp) sb 2 _ h.box (by decide), h.high⟩
theorem Sr.pushOpen (h : Sr w H sb mk outf wv ov fv n come num low ws opn fs) (v : Nat) (v4 : Value) (hg : Gro (fun k => ov.ownBlock = some k) w w4) (hrow : w4.ownsRow H 3 1 v4 (opn.length + 1) (intsV opn ++ [.int .i64 v])) (hblk : ∀ g, v4.ownBlock = some g → ov.ownBlock = some g ∨ w.heap.size ≤ g) :
    Sr (w4.setCell ⟨sb, 4, none⟩ v4) H sb mk outf wv v4 fv n come num low ws (opn ++ [v]) fs := by
  obtain ⟨a1, a2, a3, a4, a5, a6, a7⟩ := h.apart
  have hb4 := hg.at h.box a4
  have hpart : ∀ {v : Value} {l : List Int}, Part (OffB H ov) w v l → Part (OffB H v4) (w4.setCell ⟨sb, 4, none⟩ v4) v l := fun {v} {l} hp =>
    part_set ((part_mono hp (Q := fun g => OffB H v4 g ∧ ov.ownBlock ≠ some g) (fun g hgs hP => ⟨⟨hP.1, fun e => (hblk g e).elim hP.2 (fun h1 => absurd hgs (Nat.not_lt.2 h1))⟩, hP.2⟩)).gro hg (fun k hk => hk.2) |> fun q => part_mono q (fun g _ hP => hP.1)) sb 4 _ hb4 (by decide)
  have hoff : ∀ {t k m : Nat} {x : Value} {xs : List Value}, t ≠ 3 → w.ownsRow H t k x m xs → w4.ownsRow H t k x m xs := fun {t k m x xs} ht hr => own_gro hr hg (fun g hgx e => by
    obtain ⟨_, c, hc⟩ := own_tag hr hgx
    obtain ⟨_, c', hc'⟩ := own_tag h.opnR e
    exact tags hc hc' ht rfl)
  refine ⟨Go.Joins.block_setCell hb4 _, (h.marks.gro hg a5).gro (gro_set _ _ _) (fun e => a1 e.symm), own_set (hoff (by decide) h.wayR) sb 4 _ hb4 (by decide), fun p hp => hpart (h.rests p hp), ?_, own_set (hoff (by decide) h.fndR) sb 4 _ hb4 (by decide), fun p hp => hpart (h.cmps p hp), h.high⟩
  have := own_set hrow sb 4 v4 hb4 (by decide)
  rw [List.length_append, List.length_singleton]
  simpa [intsV] using this
theorem Sr.pushWay (h : Sr w H sb mk outf wv ov fv n come num low ws opn fs) (v : Nat) (l : List Nat) (rv v4 : Value) (hg : Gro (fun k => wv.ownBlock = some k) w w4) (hrow : w4.ownsRow H 132 2 v4 (ws.length + 1) (waysC ws ++ [.int .i64 v, rv])) (hp : Part (OffB H ov) w rv (natI l)) :
    Sr (w4.setCell ⟨sb, 3, none⟩ v4) H sb mk outf v4 ov fv n come num low (ws ++ [((v, l), rv)]) opn fs := by
  obtain ⟨a1, a2, a3, a4, a5, a6, a7⟩ := h.apart
  have hb4 := hg.at h.box a2
  have hpart : ∀ {v : Value} {l : List Int}, Part (OffB H ov) w v l → Part (OffB H ov) (w4.setCell ⟨sb, 3, none⟩ v4) v l := fun {v} {l} hp => by
    refine part_set ?_ sb 3 _ hb4 (by decide)
    rcases hp with h1 | ⟨g, off, cap, cur, h1, h2, h3, h4⟩
    · exact .inl h1
    · exact .inr ⟨g, off, cap, cur, h1, h2, hg.at h3 (fun e => by obtain ⟨_, c, hc⟩ := own_tag h.wayR e; exact tags hc h3 (by decide) rfl), h4⟩
  have hoff : ∀ {t k m : Nat} {x : Value} {xs : List Value}, t ≠ 132 → w.ownsRow H t k x m xs → w4.ownsRow H t k x m xs := fun {t k m x xs} ht hr => own_gro hr hg (fun g hgx e => by
    obtain ⟨_, c, hc⟩ := own_tag hr hgx
    obtain ⟨_, c', hc'⟩ := own_tag h.wayR e
    exact tags hc hc' ht rfl)
  refine ⟨Go.Joins.block_setCell hb4 _, (h.marks.gro hg a3).gro (gro_set _ _ _) (fun e => a1 e.symm), ?_, fun p hq => ?_, own_set (hoff (by decide) h.opnR) sb 3 _ hb4 (by decide), own_set (hoff (by decide) h.fndR) sb 3 _ hb4 (by decide), fun p hp => hpart (h.cmps p hp), h.high⟩
  · have := own_set hrow sb 3 v4 hb4 (by decide)
    rw [List.length_append, List.length_singleton, waysC_snoc]
    exact this
  · rcases List.mem_append.1 hq with hq | hq
    · exact hpart (h.rests p hq)
    · obtain rfl : p = ((v, l), rv) := by simpa using hq
      exact hpart hp
theorem Sr.pushFound (h : Sr w H sb mk outf wv ov fv n come num low ws opn fs) (c : List Nat) (cv v4 : Value) (hg : Gro (fun k => fv.ownBlock = some k) w w4) (hrow : w4.ownsRow H 40 1 v4 (fs.length + 1) (fs.map Prod.snd ++ [cv])) (hp : Part (OffB H ov) w cv (natI c)) :
    Sr (w4.setCell ⟨sb, 5, none⟩ v4) H sb mk outf wv ov v4 n come num low ws opn (fs ++ [(c, cv)]) := by
  obtain ⟨a1, a2, a3, a4, a5, a6, a7⟩ := h.apart
  have hb4 := hg.at h.box a6
  have hpart : ∀ {v : Value} {l : List Int}, Part (OffB H ov) w v l → Part (OffB H ov) (w4.setCell ⟨sb, 5, none⟩ v4) v l := fun {v} {l} hp => by
    refine part_set ?_ sb 5 _ hb4 (by decide)
    rcases hp with h1 | ⟨g, off, cap, cur, h1, h2, h3, h4⟩
    · exact .inl h1
    · exact .inr ⟨g, off, cap, cur, h1, h2, hg.at h3 (fun e => by obtain ⟨_, c, hc⟩ := own_tag h.fndR e; exact tags hc h3 (by decide) rfl), h4⟩
  have hoff : ∀ {t k m : Nat} {x : Value} {xs : List Value}, t ≠ 40 → w.ownsRow H t k x m xs → w4.ownsRow H t k x m xs := fun {t k m x xs} ht hr => own_gro hr hg (fun g hgx e => by
    obtain ⟨_, c, hc⟩ := own_tag hr hgx
    obtain ⟨_, c', hc'⟩ := own_tag h.fndR e
    exact tags hc hc' ht rfl)
  refine ⟨Go.Joins.block_setCell hb4 _, (h.marks.gro hg a7).gro (gro_set _ _ _) (fun e => a1 e.symm), own_set (hoff (by decide) h.wayR) sb 5 _ hb4 (by decide), fun p hq => hpart (h.rests p hq), own_set (hoff (by decide) h.opnR) sb 5 _ hb4 (by decide), ?_, fun p hq => ?_, h.high⟩
  · have := own_set hrow sb 5 v4 hb4 (by decide)
    rw [List.length_append, List.length_singleton, List.map_append]
    exact this
  · rcases List.mem_append.1 hq with hq | hq
    · exact hpart (h.cmps p hq)
    · obtain rfl : p = (c, cv) := by simpa using hq
      exact hpart hp
/-- A row cut short. -/
theorem own_cutN {B t k m N : Nat} {a : Option Addr} {c : Nat} {xs : List Value} (h : w.ownsRow B t k (.slice a N c) N xs) (hm : m ≤ N) (h0 : 0 < N) : w.ownsRow B t k (.slice a m c) m (xs.take (m * k)) := by
  rcases h.2 with ⟨hv, hn⟩ | ⟨g, cap, cur, hv, hB, hh, h1, h2, h3, h4⟩
  · omega
  · have hmk : m * k ≤ N * k := Nat.mul_le_mul_right k hm
    refine ⟨by rw [List.length_take, h.1]; omega, .inr ⟨g, cap, cur, ?_, hB, hh, by omega, h2, h3, ?_⟩⟩
    · injection hv with e1 e2 e3
      rw [e1, e3]
    · rw [← h4, List.take_take]
      congr 1
      omega
theorem Sr.cutWay {A : List Stp} {p : Stp} {wa : Option Addr} {cap : Nat} (h : Sr w H sb mk outf (.slice wa (A.length + 1) cap) ov fv n come num low (A ++ [p]) opn fs) :
    Sr (w.setCell ⟨sb, 3, none⟩ (.slice wa A.length cap)) H sb mk outf (.slice wa A.length cap) ov fv n come num low A opn fs := by
  obtain ⟨a1, a2, a3, a4, a5, a6, a7⟩ := h.apart
  have hr := h.wayR
  rw [List.length_append, List.length_singleton, waysC_snoc] at hr
  have hr2 := own_cutN hr (m := A.length) (by omega) (by omega)
  rw [List.take_append_of_le_length (by rw [waysC_len]; omega), List.take_of_length_le (by rw [waysC_len]; omega)] at hr2
  exact ⟨Go.Joins.block_setCell h.box _, h.marks.gro (gro_set _ _ _) (fun e => a1 e.symm), own_set hr2 sb 3 _ h.box (by decide), fun p hp => part_set (h.rests p (List.mem_append_left _ hp)) sb 3 _ h.box (by decide), own_set h.opnR sb 3 _ h.box (by decide), own_set h.fndR sb 3 _ h.box (by decide), fun p hp => part_set (h.cmps p hp) sb 3 _ h.box (by decide), h.high⟩
theorem Sr.cutOpen {O1 O2 : List Nat} {oa : Option Addr} {cap N : Nat} (h : Sr w H sb mk outf wv (.slice oa N cap) fv n come num low ws (O1 ++ O2) fs) (hN : N = O1.length + O2.length) (h0 : 0 < N) :
    Sr (w.setCell ⟨sb, 4, none⟩ (.slice oa O1.length cap)) H sb mk outf wv (.slice oa O1.length cap) fv n come num low ws O1 fs := by
  obtain ⟨a1, a2, a3, a4, a5, a6, a7⟩ := h.apart
  have hr := h.opnR
  rw [List.length_append, ← hN] at hr
  have hr2 := own_cutN hr (m := O1.length) (by omega) h0
  have e : (intsV (O1 ++ O2)).take (O1.length * 1) = intsV O1 := by simp [intsV]
  rw [e] at hr2
  have hob : (Value.slice oa O1.length cap).ownBlock = (Value.slice oa N cap).ownBlock := by cases oa <;> rfl
  have hoff : ∀ g, OffB H (.slice oa N cap) g → OffB H (.slice oa O1.length cap) g := fun g hg => ⟨hg.1, by rw [hob]; exact hg.2⟩
  exact ⟨Go.Joins.block_setCell h.box _, h.marks.gro (gro_set _ _ _) (fun e => a1 e.symm), own_set h.wayR sb 4 _ h.box (by decide), fun p hp => part_set (part_mono (h.rests p hp) (fun g _ => hoff g)) sb 4 _ h.box (by decide), own_set hr2 sb 4 _ h.box (by decide), own_set h.fndR sb 4 _ h.box (by decide), fun p hp => part_set (part_mono (h.cmps p hp) (fun g _ => hoff g)) sb 4 _ h.box (by decide), h.high⟩
theorem list_set2 (A : List Stp) (p : Stp) (cur : Array Value) (rv' : Value) (hs : (A.length + 1) * 2 ≤ cur.size) (h : cur.toList.take ((A.length + 1) * 2) = waysC (A ++ [p])) : (cur.setIfInBounds (A.length * 2 + 1) rv').toList.take ((A.length + 1) * 2) = waysC (A ++ [((p.1.1, p.1.2.tail), rv')]) := by
  rw [waysC_snoc] at h ⊢
  rw [Array.toList_setIfInBounds, List.take_set, h]
  rw [List.set_append_right _ _ (by rw [waysC_len]; omega), waysC_len]
  rw [show A.length * 2 + 1 - A.length * 2 = 1 by omega]
  rfl
/-- The last stop goes on by one edge. -/
theorem Sr.setRest {A : List Stp} {u x : Nat} {t : List Nat} {rv rv' : Value} {gw cap : Nat} (h : Sr w H sb mk outf (.slice (some ⟨gw, 0, none⟩) (A.length + 1) cap) ov fv n come num low (A ++ [((u, x :: t), rv)]) opn fs) (hp : Part (OffB H ov) w rv' (natI t)) :
    Sr (w.setCell ⟨gw, A.length * 2 + 1, none⟩ rv') H sb mk outf (.slice (some ⟨gw, 0, none⟩) (A.length + 1) cap) ov fv n come num low (A ++ [((u, t), rv')]) opn fs := by
  obtain ⟨a1, a2, a3, a4, a5, a6, a7⟩ := h.apart
  have hr := h.wayR
  rcases hr.2 with ⟨hv, _⟩ | ⟨g, cap', cur, hv, hB, hh, h1, h2, h3, h4⟩
  · cases hv
  injection hv with e1 e2 e3
  injection e1 with e1
  injection e1 with e1
  subst e1
  subst e3
  rw [List.length_append, List.length_singleton] at h1 h4
  refine ⟨(Below.heap_setCell w ⟨gw, A.length * 2 + 1, none⟩ rv' sb (fun e => a2 (by rw [show sb = gw from e]; rfl))).trans h.box, h.marks.gro (gro_set _ _ _) (fun e => a3 (by rw [show mk = gw from e]; rfl)), ?_, fun p hq => ?_, own_set h.opnR gw _ _ hh (by decide), own_set h.fndR gw _ _ hh (by decide), fun p hq => part_set (h.cmps p hq) gw _ _ hh (by decide), h.high⟩
  · rw [List.length_append, List.length_singleton]
    refine ⟨by rw [waysC_len]; simp, .inr ⟨gw, cap, cur.setIfInBounds (A.length * 2 + 1) rv', rfl, hB, Go.Joins.block_setCell hh _, h1, h2, by simpa using h3, ?_⟩⟩
    exact list_set2 A ((u, x :: t), rv) cur rv' (by have := Nat.mul_le_mul_right 2 h1; omega) h4
  · rcases List.mem_append.1 hq with hq | hq
    · exact part_set (h.rests p (List.mem_append_left _ hq)) gw _ _ hh (by decide)
    · obtain rfl : p = ((u, t), rv') := by simpa using hq
      exact part_set hp gw _ _ hh (by decide)
end
end Go.Proofs.YtdihbeffomibeaaGreatDoor
namespace Go.Proofs.YtdihbeffomibeaaGreatDoor
set_option linter.unusedVariables false
set_option linter.unusedSimpArgs false
open Go.RowKit

theorem Tryz.info4b : (Tryz.prog.info? 4).map (fun i => (i.zero, i.size, i.bytes)) = some (some (.bool false), 1, 1) := by kernel_rfl
theorem made_bl (m : Nat) : madeCells #[Value.bool false] m = Array.replicate m (Value.bool false) := by
  apply Array.ext
  · simp [madeCells]
  · intro i h1 h2
    have h0 : i % 1 = 0 := by omega
    simp [madeCells, h0]
/-- A row of bools in block g. -/
def LayB (w : World) (g n : Nat) (M : Nat → Bool) : Prop := ∃ cur : Array Value, w.heap[g]? = some (.cells cur 4) ∧ cur.size = n ∧ ∀ j, j < n → cur[j]? = some (.bool (M j))
theorem LayB.cell {w : World} {g n : Nat} {M : Nat → Bool} (h : LayB w g n M) (j : Nat) (hj : j < n) : w.cell? ⟨g, j, none⟩ = some (.bool (M j)) ∧ w.frozen? ⟨g, j, none⟩ = false := by
  obtain ⟨cur, h1, h2, h3⟩ := h
  exact ⟨(Lib.cell_of_heap h1 j).trans (h3 j hj), Lib.frozen_of_heap h1 j⟩
theorem LayB.put {w : World} {g n : Nat} {M : Nat → Bool} (h : LayB w g n M) (i : Nat) (hi : i < n) : LayB (w.setCell ⟨g, i, none⟩ (.bool true)) g n (fun k => k == i || M k) := by
  obtain ⟨cur, h1, h2, h3⟩ := h
  refine ⟨cur.setIfInBounds i (.bool true), Go.Joins.block_setCell h1 _, by simpa using h2, fun j hj => ?_⟩
  by_cases e : j = i
  · subst e
    rw [Array.getElem?_setIfInBounds_self_of_lt (by omega)]
    simp
  · rw [Array.getElem?_setIfInBounds_ne (fun e' => e e'.symm), h3 j hj]
    simp [e]
theorem LayB.gro {P : Nat → Prop} {w w' : World} {g n : Nat} {M : Nat → Bool} (h : LayB w g n M) (hg : Gro P w w') (hn : ¬ P g) : LayB w' g n M := by
  obtain ⟨cur, h1, h2⟩ := h
  exact ⟨cur, hg.at h1 hn, h2⟩
theorem LayB.later {w w' : World} {g n : Nat} {M : Nat → Bool} (h : LayB w g n M) (hb : Below w.heap.size w w') : LayB w' g n M := h.gro (Gro.of_below (P := fun _ => False) hb) (fun h => h)

/-- What is known between two rounds: the nodes found, and those to go on from. -/
structure RdI (E : Nat → Nat → Bool) (n s : Nat) (M : Nat → Bool) (l : List Nat) : Prop where
  que : ∀ u ∈ l, u < n ∧ (u = s ∨ M u = true)
  fnd : ∀ u, M u = true → u < n ∧ ∃ r, r ≠ [] ∧ Wl E n s r u
  clo : ∀ x, x < n → (x = s ∨ M x = true) → x ∉ l → ∀ v, v < n → E x v = true → M v = true
/-- What is known within a round: u is gone on from, its ends below t are done. -/
structure RdJ (E : Nat → Nat → Bool) (n s : Nat) (M : Nat → Bool) (l : List Nat) (u t : Nat) : Prop where
  cur : u < n ∧ (u = s ∨ M u = true)
  que : ∀ u ∈ l, u < n ∧ (u = s ∨ M u = true)
  fnd : ∀ u, M u = true → u < n ∧ ∃ r, r ≠ [] ∧ Wl E n s r u
  clo : ∀ x, x < n → (x = s ∨ M x = true) → x ∉ l → x ≠ u → ∀ v, v < n → E x v = true → M v = true
  part : ∀ v, v < t → E u v = true → M v = true
theorem RdI.first (E : Nat → Nat → Bool) (n s : Nat) (hs : s < n) : RdI E n s (fun _ => false) [s] :=
  ⟨fun u hu => by rw [List.mem_singleton] at hu; subst hu; exact ⟨hs, .inl rfl⟩, fun u hu => absurd hu (by simp), fun x hx h hn => absurd (List.mem_singleton.2 (Or.resolve_right h (by simp))) hn⟩
theorem RdI.take {E : Nat → Nat → Bool} {n s : Nat} {M : Nat → Bool} {l : List Nat} {u : Nat} (h : RdI E n s M (l ++ [u])) : RdJ E n s M l u 0 :=
  ⟨h.que u (by simp), fun x hx => h.que x (by simp [hx]), h.fnd, fun x hx h1 h2 h3 => h.clo x hx h1 (by simp [h2, h3]), fun v hv => by omega⟩
theorem RdJ.skip {E : Nat → Nat → Bool} {n s : Nat} {M : Nat → Bool} {l : List Nat} {u t m : Nat} (h : RdJ E n s M l u t) (ht : ∀ k, t ≤ k → k < m → E u k = false) (hM : M m = true) : RdJ E n s M l u (m + 1) :=
  ⟨h.cur, h.que, h.fnd, h.clo, fun v hv he => by
    by_cases h1 : v < t
    · exact h.part v h1 he
    · by_cases h2 : v = m
      · rw [h2]; exact hM
      · rw [ht v (by omega) (by omega)] at he; cases he⟩
theorem RdJ.put {E : Nat → Nat → Bool} {n s : Nat} {M : Nat → Bool} {l : List Nat} {u t m : Nat} (h : RdJ E n s M l u t) (ht : ∀ k, t ≤ k → k < m → E u k = false) (hm : m < n) (he : E u m = true) : RdJ E n s (fun k => k == m || M k) (l ++ [m]) u (m + 1) := by
  have up : ∀ x, M x = true → (x == m || M x) = true := fun x hx => by rw [hx]; simp
  have or2 : ∀ x, (x == m || M x) = true → x = m ∨ M x = true := fun x hx => by simpa using hx
  refine ⟨⟨h.cur.1, h.cur.2.imp id (up _)⟩, fun x hx => ?_, fun x hx => ?_, fun x hx h1 h2 h3 v hv hE => ?_, fun v hv hE => ?_⟩
  · rcases List.mem_append.1 hx with h1 | h1
    · exact ⟨(h.que x h1).1, (h.que x h1).2.imp id (up _)⟩
    · rw [List.mem_singleton] at h1
      subst h1
      exact ⟨hm, .inr (by simp)⟩
  · rcases or2 x hx with rfl | h1
    · refine ⟨hm, ?_⟩
      rcases h.cur.2 with e | e
      · exact ⟨[x], by simp, by rw [← e]; exact he, hm, rfl⟩
      · obtain ⟨_, r, hr, hw⟩ := h.fnd u e
        exact ⟨r ++ [x], by simp, Wl.snoc.2 ⟨u, hw, he, hm, rfl⟩⟩
    · exact h.fnd x h1
  · rw [List.mem_append, List.mem_singleton, not_or] at h2
    exact up v (h.clo x hx (h1.imp id (fun e => (or2 x e).resolve_left h2.2)) h2.1 h3 v hv hE)
  · by_cases h1 : v < t
    · exact up v (h.part v h1 hE)
    · by_cases h2 : v = m
      · rw [h2]; simp
      · rw [ht v (by omega) (by omega)] at hE; cases hE
theorem RdJ.done {E : Nat → Nat → Bool} {n s : Nat} {M : Nat → Bool} {l : List Nat} {u t : Nat} (h : RdJ E n s M l u t) (ht : ∀ k, t ≤ k → k < n → E u k = false) : RdI E n s M l :=
  ⟨h.que, h.fnd, fun x hx h1 h2 v hv hE => by
    by_cases e : x = u
    · subst e
      by_cases h3 : v < t
      · exact h.part v h3 hE
      · rw [ht v (by omega) hv] at hE; cases hE
    · exact h.clo x hx h1 h2 e v hv hE⟩
theorem RdI.ends {E : Nat → Nat → Bool} {n s : Nat} {M : Nat → Bool} (h : RdI E n s M []) (hs : s < n) (x : Nat) : M x = true ↔ ∃ r, r ≠ [] ∧ Wl E n s r x := by
  refine ⟨fun hx => (h.fnd x hx).2, ?_⟩
  rintro ⟨r, hr, hw⟩
  have key : ∀ (r : List Nat) (u : Nat), u < n → (u = s ∨ M u = true) → r ≠ [] → Wl E n u r x → M x = true := by
    intro r
    induction r with
    | nil => intro u _ _ h; exact absurd rfl h
    | cons m r ih =>
      rintro u hu hu2 _ ⟨h1, h2, h3⟩
      have hm := h.clo u hu hu2 (by simp) m h2 h1
      cases r with
      | nil => cases h3; exact hm
      | cons a r => exact ih m h2 (.inr hm) (by simp) h3
  exact key r s hs (.inl rfl) hr hw
theorem cnt_found (n m : Nat) (M : Nat → Bool) (hm : m < n) (h : M m = false) : Pop.cnt (fun v => !(v == m || M v)) n + 1 ≤ Pop.cnt (fun v => !M v) n :=
  cnt_more (fun v => !(v == m || M v)) (fun v => !M v) m n hm (fun k _ h => by simp at h ⊢; exact h.2) (by simp) (by simp [h])

theorem nil_or_snoc (l : List Nat) : l = [] ∨ ∃ l0 u, l = l0 ++ [u] := by
  rcases List.eq_nil_or_concat l with h | ⟨l0, u, h⟩
  · exact .inl h
  · exact .inr ⟨l0, u, by rw [h, List.concat_eq_append]⟩
/-- An append of a number to a row of one's own: nothing but that row's block turns. -/
theorem wpList_append_one {ops : Array Oper} {rest : List Oper} {o : Oper} {a : Act} {Q : Exit → Act → World → Prop} (w : World)
    (hg : o.guard = none) (s x : Operand) (hop : o.op = Op.call { callee := Callee.builtin Builtin.append, args := #[s, x], argTypes := #[40, 40] })
    (B : Nat) (hB : B ≤ w.heap.size) (v : Value) (l : List Nat) (hs : a.eval s = v) (hv : Ints B w v l)
    (ab : Nat) (y : Nat) (c : Nat) (hx : a.eval x = .slice (some ⟨ab, 0, none⟩) 1 c) (hc : w.cell? ⟨ab, 0, none⟩ = some (.int .i64 y)) (hl : l.length < 10000)
    (h : ∀ g cap w', Ints B w' (.slice (some ⟨g, 0, none⟩) (l.length + 1) cap) (l ++ [y]) → Gro (fun k => v.ownBlock = some k) w w' → (v.ownBlock = some g ∨ g = w.heap.size) → wpList Tryz.prog ops Q rest (a.put o.dst (.slice (some ⟨g, 0, none⟩) (l.length + 1) cap)) w') : wpList Tryz.prog ops Q (o :: rest) a w := by
  obtain ⟨i0, hi, hz'⟩ := Option.map_eq_some_iff.1 Tryz.info3i
  simp only [Prod.mk.injEq] at hz'
  obtain ⟨hz0, hz1, hz2⟩ := hz'
  have hnews : ∀ j u, ([.int .i64 (y : Int)] : List Value)[j]? = some u → w.cell? ((⟨ab, 0, none⟩ : Addr).add j) = some u := by
    intro j u hj
    cases j with
    | zero => rw [Addr.add_lit]; simp at hj; subst hj; exact hc
    | succ j => simp at hj
  refine wpList_append_lies w hg s x 40 hop B 3 i0 (.int .i64 0) 1 8 Tryz.underlying40 hi hz0 hz1 hz2 rfl (by decide) v l.length (intsV l) hs hv ⟨ab, 0, none⟩ 1 c [.int .i64 y] hx rfl hnews (by simp [Value.oneCell']) (by decide) (by simp [maxLen]; omega) (by omega) hB _ rfl (fun g cap w' h1 h2 h3 h4 => h g cap w' ?_ (gro_of_grown h2) h3)
  show World.ownsRow _ _ _ _ _ _ _
  rw [List.length_append, List.length_singleton, intsV_append]
  exact h1
theorem Ints.gro {B : Nat} {P : Nat → Prop} {w w' : World} {v : Value} {l : List Nat} (h : Ints B w v l) (hg : Gro P w w') (hn : ∀ g, v.ownBlock = some g → ¬ P g) : Ints B w' v l := own_gro h hg hn
theorem Ints.cut {B : Nat} {w : World} {a : Option Addr} {c m : Nat} {l : List Nat} {u : Nat} (h : Ints B w (.slice a m c) (l ++ [u])) (hm : m = l.length + 1) : Ints B w (.slice a l.length c) l := by
  subst hm
  have h0 : w.ownsRow B 3 1 (.slice a (l.length + 1) c) (l.length + 1) (intsV (l ++ [u])) := by
    have := h
    unfold Ints at this
    rwa [List.length_append, List.length_singleton] at this
  have := own_cutN h0 (m := l.length) (by omega) (by omega)
  have e : (intsV (l ++ [u])).take (l.length * 1) = intsV l := by rw [intsV_append, Nat.mul_one, List.take_append_of_le_length (by simp [intsV])]; exact List.take_of_length_le (by simp [intsV])
  rw [e] at this
  exact this
theorem Ints.last {B : Nat} {w : World} {a : Option Addr} {c m : Nat} {l : List Nat} {u : Nat} (h : Ints B w (.slice a m c) (l ++ [u])) : ∃ g, a = some ⟨g, 0, none⟩ ∧ B ≤ g ∧ w.cell? ⟨g, l.length, none⟩ = some (.int .i64 u) := by
  rcases h.2 with ⟨hv, hn⟩ | ⟨g, cap, cur, hv, hB, hh, h1, h2, h3, h4⟩
  · simp at hn
  · injection hv with e1 e2 e3
    refine ⟨g, e1, hB, ?_⟩
    have q : (intsV (l ++ [u]))[l.length]? = some (.int .i64 (u : Int)) := by rw [intsV_append, List.getElem?_append_right (by simp [intsV])]; simp [intsV]
    have e : cur.toList[l.length]? = (cur.toList.take ((l ++ [u]).length * 1))[l.length]? := by rw [List.getElem?_take, if_pos (by simp)]
    rw [Lib.cell_of_heap hh, ← Array.getElem?_toList, e, h4, q]

set_option maxHeartbeats 16000000 in
set_option maxRecDepth 100000 in
theorem reached_is (b n r s : Nat) (bk ck : Nat → Nat) (L : Nat → Nat → Nat) (labels : Int) (w : World) (h : Graph w b n r bk ck L) (hs : s < n) (hT : Tab w) :
    Calls Tryz.prog 41 #[.pointer (some ⟨b, 0, none⟩), .int .i64 labels, .int .i64 s] w fun e w' => (∃ fb M, e = .returned (.slice (some ⟨fb, 0, none⟩) n n) ∧ LayB w' fb n M ∧ ∀ x, M x = true ↔ ∃ q, q ≠ [] ∧ Wl (edge L labels) n s q x) ∧ Below w.heap.size w w' := by
  have hn := h.bound
  have hmk := run_make_row' (P := Tryz.prog) 74 4 (.bool false) 1 Tryz.underlying74 Tryz.info4b rfl .i64 .i64 n (by omega) (by omega)
  rw [made_bl] at hmk
  have NO := hid (nodes_is b n w h.c0 h.c1)
  have GR := hid h
  have TB := hid hT
  have hsi : (s : Int) < n := by omega
  have hni : (n : Int) ≤ 300 := by omega
  clear h hT
  go_enter Tryz.func41, Tryz.ntmps41
  go_wp2_with fail
  go_at_call 40
  refine NO.out.mono ?_
  rintro e w' ⟨rfl, rfl⟩
  clear NO
  go_wp2_with fail
  clear hmk
  obtain ⟨fb, hfb⟩ : ∃ fb, w.heap.size = fb := ⟨_, rfl⟩
  have B0 : Hid (Below w.heap.size w ((w.alloc (.cells (Array.replicate n (.bool false)) 4)).alloc (.cells #[.int .i64 s] 3))) := (below_box _ _).alloc (by simp) _
  have L0 : Hid (LayB ((w.alloc (.cells (Array.replicate n (.bool false)) 4)).alloc (.cells #[.int .i64 s] 3)) fb n (fun _ => false)) := by
    rw [← hfb]
    exact LayB.later ⟨_, heap_alloc_new w _, by simp, fun j hj => by simp [hj]⟩ (below_box _ _)
  have I0 : Hid (Ints (fb + 1) ((w.alloc (.cells (Array.replicate n (.bool false)) 4)).alloc (.cells #[.int .i64 s] 3)) (.slice (some ⟨fb + 1, 0, none⟩) 1 1) [s]) := by
    have := ints_made (fb + 1) (w.alloc (.cells (Array.replicate n (.bool false)) 4)) [s] (by simp; omega) (by simp [maxLen])
    rw [World.size_alloc, hfb] at this
    exact this
  have SZ : Hid (fb + 1 < ((w.alloc (.cells (Array.replicate n (.bool false)) 4)).alloc (.cells #[.int .i64 s] 3)).heap.size) := by
    have e1 := World.size_alloc (w.alloc (.cells (Array.replicate n (.bool false)) 4)) (.cells #[.int .i64 s] 3)
    have e2 := World.size_alloc w (.cells (Array.replicate n (.bool false)) 4)
    exact (by omega : ∀ x y z : Nat, x = y + 1 → y = z + 1 → z = fb → fb + 1 < x) _ _ _ e1 e2 hfb
  rw [hfb]
  have HFB := hid hfb
  clear hfb
  generalize ((w.alloc (.cells (Array.replicate n (.bool false)) 4)).alloc (.cells #[.int .i64 s] 3)) = W0 at *
  go_loopg [8, 9, 11] (n + 2) (fun g wv _ _ wr => ∃ (M : Nat → Bool) (l : List Nat), Pop.cnt (fun v => !M v) n + l.length + 1 ≤ g ∧ Pop.cnt (fun v => !M v) n + l.length ≤ n + 1 ∧ Aside (RdI (edge L labels) n s M l) ∧ Aside (Ints (fb + 1) wr wv l) ∧ Aside (LayB wr fb n M) ∧ Aside (Below w.heap.size w wr ∧ fb + 1 < wr.heap.size))
  case atStart =>
    have c1 : Pop.cnt (fun v => !(fun _ : Nat => false) v) n ≤ n := Pop.cnt_le _ _
    exact ⟨fun _ => false, [s], Nat.add_le_add_right c1 2, Nat.add_le_add_right c1 1, RdI.first _ n s hs, I0.out, L0.out, B0.out, SZ.out⟩
  case round =>
    clear B0 L0 I0 SZ
    obtain ⟨M, l, hg, hb, RI, IX, LX, BX⟩ := hrel
    obtain ⟨wa, wc, hwv⟩ := IX.out.form
    subst hwv
    rcases nil_or_snoc l with rfl | ⟨l, u, rfl⟩
    · have EN := hid (RI.out.ends hs)
      simp only [List.length_nil]
      clear RI IX
      go_wp2_with fail
      go_ret
      exact ⟨⟨fb, M, rfl, LX.out, EN.out⟩, BX.out.1⟩
    · obtain ⟨g0, rfl, hgB, cg⟩ := IX.out.last
      obtain ⟨hun, hu2⟩ := RI.out.que u (by simp)
      have hcap : l.length + 1 ≤ wc := by
        obtain ⟨fa, fc, hfm, hcap⟩ := own_form IX.out
        rw [List.length_append, List.length_singleton] at hcap
        injection hfm with q1 q2 q3
        omega
      rw [List.length_append, List.length_singleton] at hg hb ⊢
      have hg0 : g0 < wr.heap.size := World.block_lt_of_cell? _ _ cg
      have IC := hid (IX.out.cut (by simp))
      have OUT := hid (out_ok b n r u bk ck L labels wr (GR.out.later BX.out.1) hun (TB.out.later BX.out.1))
      have RJ := hid RI.out.take
      have hll : l.length ≤ 301 := by omega
      have hli : (0 : Int) < (l.length : Int) + 1 := by omega
      have hl0 : (0 : Int) ≤ (l.length : Int) := by omega
      have hlc : (l.length : Int) ≤ wc := by omega
      have hlc2 : (l.length : Int) + 1 ≤ wc := by omega
      have hll2 : (l.length : Int) ≤ 301 := by omega
      have hui : (u : Int) < n := by omega
      obtain ⟨K, hK⟩ : ∃ K, Pop.cnt (fun v => !M v) n + l.length = K := ⟨_, rfl⟩
      have hKg : K + 2 ≤ gk := by omega
      have hKn : K ≤ n := by omega
      have HK := hid hK
      have HG0 := hid hg0
      clear RI IX hg hb hcap hK hu2 hg0
      go_wp2_with fail
      go_at_call 42
      refine OUT.out.mono ?_
      rintro e w1 ⟨⟨ov, rfl, i1⟩, b1⟩
      have hls := lst_le (endsF L u labels 4) n
      have O1 := hid i1
      have AP : Hid (∀ x, (Value.slice (some ⟨g0, 0, none⟩) l.length wc).ownBlock = some x → ov.ownBlock ≠ some x) := fun x hx hy => by
        have hx2 : g0 = x := Option.some.inj hx
        have := (own_tag i1 hy).1
        have := HG0.out
        omega
      have I1 := hid (IC.out.later b1)
      have L1 := hid (LX.out.later b1)
      have B1 : Hid (Below w.heap.size w w1 ∧ fb + 1 < w1.heap.size) := ⟨BX.out.1.trans (b1.mono BX.out.1.size), Nat.lt_of_lt_of_le BX.out.2 b1.size⟩
      obtain ⟨oa, oc, hov⟩ := i1.form
      have hlsi : ((lst (endsF L u labels 4) n).length : Int) ≤ 300 := by omega
      subst hov
      clear i1 b1 OUT IC LX BX cg
      have J0 : Hid (Pop.cnt (fun v => !M v) n + l.length ≤ K) := Nat.le_of_eq HK.out
      have O2 := hid (O1.out.mono (B' := 0) (Nat.zero_le _))
      clear O1 HK
      go_wp2_with fail
      go_loopg [8, 11, 36] (lst (endsF L u labels 4) n).length (fun g2 wv2 _ i wq => ∃ (j t : Nat) (M : Nat → Bool) (l : List Nat), j ≤ (lst (endsF L u labels 4) n).length ∧ (lst (endsF L u labels 4) n).length - j ≤ g2 ∧ i = .int .i64 j ∧ t ≤ n ∧ Aside (lst (endsF L u labels 4) t = (lst (endsF L u labels 4) n).take j) ∧ Aside (RdJ (edge L labels) n s M l u t) ∧ Aside (Ints (fb + 1) wq wv2 l) ∧ Aside (LayB wq fb n M) ∧ Aside (Ints 0 wq (.slice oa (lst (endsF L u labels 4) n).length oc) (lst (endsF L u labels 4) n)) ∧ Aside (∀ x, wv2.ownBlock = some x → (Value.slice oa (lst (endsF L u labels 4) n).length oc).ownBlock ≠ some x) ∧ Aside (Below w.heap.size w wq ∧ fb + 1 < wq.heap.size) ∧ Aside (Pop.cnt (fun v => !M v) n + l.length ≤ K))
      case atStart => exact ⟨0, 0, M, l, Nat.zero_le _, by omega, rfl, Nat.zero_le _, by show lst _ 0 = List.take 0 _; simp [lst], RJ.out, I1.out, L1.out, O2.out, AP.out, B1.out, J0.out⟩
      case round =>
        clear RJ I1 L1 O2 AP B1 J0 hll hli hl0 hlc hlc2 hll2
        obtain ⟨j, t, M', l', hj, hg2, rfl, htn, LT, RX, IX, LX, OX, AX, BX, KX⟩ := hrel
        obtain ⟨wa2, wc2, hwv2⟩ := IX.out.form
        subst hwv2
        by_cases hjl : j < (lst (endsF L u labels 4) n).length
        · have hjli : (j : Int) < (lst (endsF L u labels 4) n).length := by omega
          obtain ⟨a', c', e', hA⟩ := OX.out.arg
          injection e' with e1 e2 e3
          obtain ⟨bz, oz, hz1, cj⟩ := hA j (by rw [List.length_map]; exact hjl)
          rw [← e1] at hz1
          subst hz1
          have ej : (List.map (fun x : Nat => (x : Int)) (lst (endsF L u labels 4) n)).getD j 0 = (((lst (endsF L u labels 4) n).getD j 0 : Nat) : Int) := by simp [List.getD, hjl]
          rw [ej] at cj
          obtain ⟨m1, m2, m3, m4, m5⟩ := lst_next (endsF L u labels 4) n t j htn LT.out hjl
          generalize (lst (endsF L u labels 4) n).getD j 0 = m at *
          obtain ⟨cm, fm⟩ := LX.out.cell m m2
          have hmi : (m : Int) < n := by omega
          have M3 := hid m3
          have M4 := hid m4
          have M5 := hid m5
          clear m1 m3 m4 m5 ej hA e1 e2 e3 LT
          cases hM : M' m with
          | true =>
            rw [hM] at cm
            have RN := hid (RX.out.skip M4.out hM)
            clear RX hM
            go_wp2_with fail
            go_roundg ((lst (endsF L u labels 4) n).length - (j + 1))
            case measure => omega
            case rel => exact ⟨j + 1, m + 1, M', l', by omega, by omega, by go_num, by omega, M5.out, RN.out, IX.out, LX.out, OX.out, AX.out, BX.out, KX.out⟩
          | false =>
            rw [hM] at cm
            have RN := hid (RX.out.put M4.out m2 M3.out)
            have CN := hid (cnt_found n m M' m2 hM)
            obtain ⟨cur, hb1, hb2, hb3⟩ := LX.out
            have LN := hid ((LX.out.put m m2).later (below_box (wr.setCell ⟨fb, m, none⟩ (.bool true)) (.cells #[.int .i64 m] 3)))
            have IN : Hid (Ints (fb + 1) ((wr.setCell ⟨fb, m, none⟩ (.bool true)).alloc (.cells #[.int .i64 m] 3)) (.slice wa2 l'.length wc2) l') := Ints.later (own_set IX.out fb m (.bool true) hb1 (by decide)) (below_box _ _)
            have ON : Hid (Ints 0 ((wr.setCell ⟨fb, m, none⟩ (.bool true)).alloc (.cells #[.int .i64 m] 3)) (.slice (some ⟨bz, oz, none⟩) (lst (endsF L u labels 4) n).length oc) (lst (endsF L u labels 4) n)) := Ints.later (own_set OX.out fb m (.bool true) hb1 (by decide)) (below_box _ _)
            have BN : Hid (Below w.heap.size w ((wr.setCell ⟨fb, m, none⟩ (.bool true)).alloc (.cells #[.int .i64 m] 3)) ∧ fb + 1 < ((wr.setCell ⟨fb, m, none⟩ (.bool true)).alloc (.cells #[.int .i64 m] 3)).heap.size) := by
              have q := (BX.out.1.setCell (p := ⟨fb, m, none⟩) (by have := HFB.out; show w.heap.size ≤ fb; omega) (.bool true))
              refine ⟨q.alloc q.size _, ?_⟩
              have := BX.out.2
              simp
              omega
            have hll : l'.length < 10000 := by have := KX.out; omega
            have HLL := hid hll
            clear RX hM hb1 hb2 hb3 LX IX OX BX hll
            go_wp2_with (at_builtin; refine wpList_append_one _ rfl _ _ rfl (fb + 1) ?qB _ l' rfl ?qv _ m 1 rfl ?qc ?ql ?_)
            case qB => exact Nat.le_of_lt BN.out.2
            case qv => exact IN.out
            case qc =>
              have h := new_cells (wr.setCell ⟨fb, m, none⟩ (.bool true)) #[.int .i64 (m : Int)] 3 0
              have e : (wr.setCell ⟨fb, m, none⟩ (.bool true)).heap.size = wr.heap.size := by simp [World.setCell]
              rw [e] at h
              exact h
            case ql => exact HLL.out
            intro g1 cap1 w2 i2 gro own
            have I2 : Hid (Ints (fb + 1) w2 (.slice (some ⟨g1, 0, none⟩) (l'.length + 1) cap1) (l' ++ [m])) := i2
            have hob : (Value.slice (some ⟨bz, oz, none⟩) (lst (endsF L u labels 4) n).length oc).ownBlock = some bz := rfl
            have hbz : bz < ((wr.setCell ⟨fb, m, none⟩ (.bool true)).alloc (.cells #[.int .i64 m] 3)).heap.size := by
              obtain ⟨_, cur2, hc2⟩ := own_tag ON.out hob
              exact blt hc2
            have O2 : Hid (Ints 0 w2 (.slice (some ⟨bz, oz, none⟩) (lst (endsF L u labels 4) n).length oc) (lst (endsF L u labels 4) n)) := ON.out.gro gro (fun x hx hy => AX.out x hy hx)
            have A2 : Hid (∀ x, (Value.slice (some ⟨g1, 0, none⟩) (l'.length + 1) cap1).ownBlock = some x → (Value.slice (some ⟨bz, oz, none⟩) (lst (endsF L u labels 4) n).length oc).ownBlock ≠ some x) := fun x hx hy => by
              have hx2 : g1 = x := Option.some.inj hx
              subst hx2
              rcases own with e | e
              · exact AX.out _ e hy
              · rw [hob] at hy
                have q := Option.some.inj hy
                have hbz2 := hbz
                rw [q, e] at hbz2
                have e9 : ((wr.setCell ⟨fb, m, none⟩ (.bool true)).alloc (.cells #[.int .i64 (m : Int)] 3)).heap.size = wr.heap.size + 1 := by simp [World.setCell]
                omega
            have L2 : Hid (LayB w2 fb n (fun k => k == m || M' k)) := LN.out.gro gro (fun e => by have := (own_tag IN.out e).1; omega)
            have B2 : Hid (Below w.heap.size w w2 ∧ fb + 1 < w2.heap.size) := ⟨BN.out.1.trans (gro.below w.heap.size (fun k hk => by have := (own_tag IN.out hk).1; have := HFB.out; omega) BN.out.1.size), Nat.lt_of_lt_of_le BN.out.2 gro.size⟩
            have K2 : Hid (Pop.cnt (fun v => !(v == m || M' v)) n + (l' ++ [m]).length ≤ K) := by
              have := CN.out
              have := KX.out
              rw [List.length_append, List.length_singleton]
              show Pop.cnt _ n + _ ≤ K
              omega
            clear i2 gro own hbz hob IN ON LN BN CN KX AX HLL
            go_wp2_with fail
            go_roundg ((lst (endsF L u labels 4) n).length - (j + 1))
            case measure => omega
            case rel => exact ⟨j + 1, m + 1, fun k => k == m || M' k, l' ++ [m], by omega, by omega, by go_num, by omega, M5.out, RN.out, I2.out, L2.out, O2.out, A2.out, B2.out, K2.out⟩
        · have hjli : ¬ (j : Int) < (lst (endsF L u labels 4) n).length := by omega
          have RN := hid (RX.out.done (lst_end (endsF L u labels 4) n t j htn LT.out hjl))
          clear RX LT
          go_wp2_with fail
          go_roundg (K + 1)
          case measure => omega
          case rel => exact ⟨M', l', by have := KX.out; omega, by have := KX.out; omega, RN.out, IX.out, LX.out, BX.out⟩
end Go.Proofs.YtdihbeffomibeaaGreatDoor
namespace Go.Proofs.YtdihbeffomibeaaGreatDoor
set_option linter.unusedVariables false
set_option linter.unusedSimpArgs false
open Go.RowKit Go.Shelf

section
variable {F : Fence} {n : Nat} {P : Program}

/-- An iterator that hands on just the rows xs 0, xs 1, .. up to N of them; a round keeps Kp. -/
def SeqDet (F : Fence) (n : Nat) (P : Program) (g : Nat) (lb : Array Value) (xs : Nat → Array Value) (N : Nat) (Kp : World → World → Prop) (w : World) : Prop :=
  ∀ (l : Nat) (J : Nat → World → Prop) (W : World), Below w.heap.size w W →
    (∀ k W1, k < N → J k W1 → YieldAt F (n - 1) P l (xs k) W1 fun e W' => e = .returned (.bool true) ∧ J (k + 1) W' ∧ Kp W1 W') →
    J 0 W → CallsIn F n P g (#[.func (.yield l) #[] #[]] ++ lb) W fun e W' => (∃ v, e = .returned v) ∧ J N W'
/-- A round goes on, and leaves I. -/
def detPost (B : Nat) (Kp : World → World → Prop) (J : World → Prop) (W : World) : Exit → Act → World → Prop
  | .normal, _, W' => KeepsFrom B W W' ∧ Kp W W' ∧ J W'
  | _, _, _ => False
/-- What stays when a block that is no cells is turned, at B or behind it. -/
def Stays (B : Nat) (J : World → Prop) : Prop := ∀ (W : World) (l : Nat) (o o' : Obj), J W → B ≤ l → W.heap[l]? = some o → o.isCells = false → J (W.putObj l o')

theorem wpIn_rangeFunc_det {g : Operand} {ps : Array Tmp} {assign body : Code} {Q : Exit → Act → World → Prop} {a : Act} {w : World} (hro : F.round = none) (h1 : 1 ≤ n)
    {gf : Nat} {lb : Array Value} (hg : a.eval g = .func (.func gf) #[] lb) (hFg : F.fn gf) (eg : ∀ args w, (callFunc gf args).run P w = .ok (.enter gf args) w)
    {xs : Nat → Array Value} {N : Nat} {Kp : World → World → Prop} {w0 : World} (hseq : SeqDet F (n - 1) P gf lb xs N Kp w0) (hb0 : Below w0.heap.size w0 w) (hps : ∀ k, (xs k).size = ps.size)
    (hKt : ∀ {A B C : World}, Kp A B → Kp B C → Kp A C) (hKb : ∀ (W : World) (l : Nat) (o o' : Obj), w.heap.size ≤ l → W.heap[l]? = some o → o.isCells = false → Kp W (W.putObj l o'))
    (J : Nat → World → Prop) (hJ : ∀ k, Stays w.heap.size (J k)) (h0 : ∀ o1 o2, J 0 ((w.alloc o1).alloc o2))
    (Ax : Nat → Act → World → Prop) (hAx : ∀ k a, Stays w.heap.size (Ax k a))
    (hassign : ∀ (l k : Nat) (W : World), k < N → J k W → assign.wpIn (F.inRound l) (n - 1 - 1) P (Exit.then (fun a1 W1 => KeepsFrom w.heap.size W W1 ∧ Kp W W1 ∧ Ax k a1 W1) (fun _ _ _ => False)) { tmps := (ps.zip (xs k)).foldl (fun t (p, v) => t.setIfInBounds p v) a.tmps, defers := [] } W)
    (hbody : ∀ (l k : Nat) (a1 : Act) (W : World), k < N → Ax k a1 W → body.wpIn (F.inRound l) (n - 1 - 1) P (detPost w.heap.size Kp (J (k + 1)) W) a1 W)
    (hdone : ∀ (D : Nat) (W : World), w.heap.size ≤ D → J N W → W.heap[D]? = some (.deferred (some [])) → Q .normal { a with defers := { target := .collected D, args := #[] } :: a.defers } W) :
    (Code.rangeFunc g ps assign body).wpIn F n P Q a w := by
  refine wpIn_rangeFunc fun fn hfn => ?_
  rw [hro]
  obtain ⟨B, hB⟩ : ∃ B, w.heap.size = B := ⟨_, rfl⟩
  rw [hB] at hKb hJ hAx hassign hbody hdone
  obtain ⟨R, hR⟩ : ∃ R : LoopState → Option Code → Loop, R = fun st pe => { state := st, pending := pe, fn, tmps := a.tmps, params := ps, assign, body, defers := B } := ⟨_, rfl⟩
  have henter := run_enterLoop_outer (P := P) (w := w) fn a.tmps ps assign body
  rw [hB] at henter
  obtain ⟨W1, hW1⟩ : ∃ W1, (w.alloc (.deferred (some []))).alloc (.loop (R .ready none)) = W1 := ⟨_, rfl⟩
  have hs1 : W1.heap.size = B + 2 := by rw [← hW1, World.size_alloc, World.size_alloc, hB]
  have hrec : W1.heap[B + 1]? = some (.loop (R .ready none)) := by
    rw [← hW1]
    have := World.alloc_heap_new (w.alloc (.deferred (some []))) (.loop (R .ready none))
    rwa [World.size_alloc, hB] at this
  have hdef : W1.heap[B]? = some (.deferred (some [])) := by
    rw [← hW1, ← hB]
    exact (Below.heap_alloc _ _ _ (by simp)).trans (World.alloc_heap_new w _)
  have hbel : Below w0.heap.size w0 W1 := by
    rw [← hW1]
    exact hb0.trans ((((Below.refl _ w).alloc (Nat.le_refl _) _).alloc (by simp) _).mono hb0.size)
  have hJ0 : J 0 W1 := by rw [← hW1]; exact h0 _ _
  refine ⟨B + 1, [{ target := .collected B, args := #[] }], W1, { target := .fn (.func gf) lb, args := #[.func (.yield (B + 1)) #[] #[]] }, W1, gf, #[.func (.yield (B + 1)) #[] #[]] ++ lb, W1, ?_, ?_, ?_, ?_, fun _ => h1, ?_⟩
  · rw [henter, ← hW1, hR]
  · simp only [resolve, hg]
    simp [go_sem]
  · intro f' hf'
    simp [Target.leads] at hf'
    subst hf'
    exact hFg
  · simp [invoke, go_sem, eg]
  · refine (hseq (B + 1) (fun k W => J k W ∧ W.heap[B + 1]? = some (.loop (R .ready none)) ∧ W.heap[B]? = some (.deferred (some []))) W1 hbel ?_ ⟨hJ0, hrec, hdef⟩).mono ?_
    · rintro k W hk ⟨hj, hl, hd⟩
      have hy := run_yield (P := P) (args := xs k) hl (by rw [hR]; exact hps k)
      rw [hR] at hy
      refine ⟨fn, _, assign, body, hy, roundIn_of_wpIn hfn (wpIn_mono (hassign (B + 1) k W hk hj) ?_)⟩
      rintro e a1 W2 he
      cases e with
      | normal =>
        obtain ⟨hk2, hp2, hx2⟩ := he
        have hl2 : W2.heap[B + 1]? = some (.loop (R .ready none)) := hk2.same (B + 1) _ (by omega) hl rfl
        have hd2 : W2.heap[B]? = some (.deferred (some [])) := hk2.same B _ (by omega) hd rfl
        refine ⟨_, run_beginRound hl2 (by rw [hR]), ?_⟩
        have hlt2 : B + 1 < W2.heap.size := (Array.getElem?_eq_some_iff.1 hl2).1
        refine wpIn_mono (hbody (B + 1) k a1 _ hk (hAx k a1 _ _ _ _ hx2 (by omega) hl2 rfl)) ?_
        rintro e a3 W3 h3
        cases e with
        | normal =>
          obtain ⟨hk3, hp3, hj3⟩ := h3
          have hl3 := hk3.same (B + 1) _ (by omega) (World.putObj_heap_same hlt2) rfl
          have hd3 := hk3.same B _ (by omega) ((World.putObj_heap_other (w := W2) (r := B + 1) (by omega)).trans hd2) rfl
          have hlt3 : B + 1 < W3.heap.size := (Array.getElem?_eq_some_iff.1 hl3).1
          have hend := run_endRound (P := P) none hl3
          refine ⟨_, _, hend, rfl, ⟨hJ (k + 1) _ _ _ _ hj3 (by omega) hl3 rfl, ?_, (World.putObj_heap_other (by omega)).trans hd3⟩, ?_⟩
          · rw [World.putObj_heap_same hlt3, hR]
            rfl
          · exact hKt (hKt (hKt hp2 (hKb _ _ _ _ (by omega) hl2 rfl)) hp3) (hKb _ _ _ _ (by omega) hl3 rfl)
        | _ => exact h3.elim
      | _ => exact he.elim
    · rintro e W2 ⟨⟨v, rfl⟩, hj, hl, hd⟩
      refine ⟨none, _, by have := run_endLoop (P := P) hl (by rw [hR]; simp); rw [hR] at this; exact this, ?_⟩
      exact hdone B _ (Nat.le_refl _) (hJ N _ _ _ _ hj (by omega) hl rfl) ((World.putObj_heap_other (by omega)).trans hd)
/-- No operation of a region defers a call. -/
def noDefer (ops : Array Oper) : Bool := ops.toList.all fun o => match o.op with
  | .defer _ => false
  | _ => true
theorem noDefer_at {ops : Array Oper} (h : noDefer ops = true) {i : Nat} {o : Oper} (ho : ops[i]? = some o) : ∀ c, o.op ≠ .defer c := fun c hc => by
  have h1 := List.all_eq_true.1 h o (by rw [Array.mem_toList_iff]; exact Array.mem_of_getElem? ho)
  rw [hc] at h1
  cases h1
/-- Such a region goes in a round as elsewhere. -/
theorem wpAnyIn_inRound {ops : Array Oper} {Q : Exit → Act → World → Prop} {md : Region.Mode} (hro : F.round = none) (hd : noDefer ops = true) (l : Nat) : ∀ (fuel : Nat) (listed : Array Bool) (a : Act) (w : World), wpAnyIn F n P md ops Q fuel listed a w → wpAnyIn (F.inRound l) n P md ops Q fuel listed a w
  | 0, listed, a, w, h => h
  | fuel + 1, listed, a, w, h => by
    refine ⟨h.1, fun i hi => ?_⟩
    have h2 := h.2 i hi
    have h3 := wpOpIn_mono (fun a w => wpAnyIn_inRound hro hd l fuel (listed.setIfInBounds i true) a w) h2
    unfold wpOpIn at h3 ⊢
    cases ho : ops[i]? with
    | none => simp only [ho] at h3 ⊢; exact h3
    | some o =>
      simp only [ho] at h3 ⊢
      by_cases hw : Region.wanted o (yielded ops a.tmps) = true
      · simp only [hw, if_true] at h3 ⊢
        refine ⟨h3.1, ?_⟩
        have h4 := h3.2
        rw [Oper.semAt_eq _ _ _ (noDefer_at hd ho)] at h4 ⊢
        exact h4
      · simp only [hw] at h3 ⊢
        exact h3
end
end Go.Proofs.YtdihbeffomibeaaGreatDoor
namespace Go.Proofs.YtdihbeffomibeaaGreatDoor
set_option linter.unusedVariables false
set_option linter.unusedSimpArgs false
open Go.RowKit Go.Shelf
attribute [local go_sem] Oper.semAt_some

/-- Blocks below n stay. -/
structure KeepB (n : Nat) (W W' : World) : Prop where
  os : W'.os = W.os
  tape : W'.tape = W.tape
  output : W'.output = W.output
  size : W.heap.size ≤ W'.heap.size
  block : ∀ b, b < n → W'.heap[b]? = W.heap[b]?
theorem KeepB.refl (n : Nat) (W : World) : KeepB n W W := ⟨rfl, rfl, rfl, Nat.le_refl _, fun _ _ => rfl⟩
theorem KeepB.trans {n : Nat} {A B C : World} (h : KeepB n A B) (k : KeepB n B C) : KeepB n A C := ⟨k.os.trans h.os, k.tape.trans h.tape, k.output.trans h.output, Nat.le_trans h.size k.size, fun b hb => (k.block b hb).trans (h.block b hb)⟩
theorem KeepB.put {n : Nat} (W : World) (l : Nat) (o : Obj) (h : n ≤ l) : KeepB n W (W.putObj l o) := ⟨rfl, rfl, rfl, by simp, fun b hb => World.putObj_heap_other (by omega)⟩
theorem KeepB.cell {n : Nat} {W W' : World} (h : KeepB n W W') {b i : Nat} {v : Value} (hb : b < n) (hc : W.cell? ⟨b, i, none⟩ = some v) : W'.cell? ⟨b, i, none⟩ = some v := (World.cell?_of_block (a := ⟨b, i, none⟩) (h.block b hb)).trans hc
theorem KeepB.of_below {n : Nat} {W W' : World} (h : Below n W W') : KeepB n W W' := ⟨h.os, h.tape, h.output, h.size, h.block⟩
theorem KeepB.below {n : Nat} {W W' : World} (h : KeepB n W W') : Below n W W' := ⟨h.os, h.tape, h.output, h.size, h.block⟩

set_option maxHeartbeats 1000000 in
theorem values_is (a : Option Addr) (len cap : Nat) (w : World) :
    Calls Tryz.prog 106 #[.slice a len cap] w fun e w' => e = .returned (.func (.func 114) #[] #[.pointer (some ⟨w.heap.size, 0, none⟩)]) ∧ w' = w.alloc (.cells #[.slice a len cap] 40) := by
  go_enter Tryz.func106, Tryz.ntmps106
  go_wp2
  go_ret
  exact ⟨rfl, rfl⟩

/-- Numbers from an address on, in a block below n1. -/
def IntsAt (w : World) (n1 : Nat) (a : Option Addr) (l : List Nat) : Prop := ∀ j, j < l.length → ∃ b off, a = some ⟨b, off, none⟩ ∧ b < n1 ∧ w.cell? ⟨b, off + j, none⟩ = some (.int .i64 ((l.getD j 0 : Nat) : Int))
def valX (l : List Nat) (k : Nat) : Array Value := #[.int .i64 ((l.getD k 0 : Nat) : Int)]

set_option maxRecDepth 100000 in
set_option maxHeartbeats 4000000 in
theorem values_seq (F : Fence) (n : Nat) (hf : F.fn 114) (hro : F.round = none) (hn : 1 ≤ n) (Bs n1 : Nat) (a : Option Addr) (l : List Nat) (cap : Nat) (w : World) (hlen : l.length ≤ 1000) (hcap : l.length ≤ cap)
    (hBs : w.cell? ⟨Bs, 0, none⟩ = some (.slice a l.length cap)) (hB1 : Bs < n1) (hn1 : n1 ≤ w.heap.size) (hc : IntsAt w n1 a l) :
    SeqDet F n Tryz.prog 114 #[.pointer (some ⟨Bs, 0, none⟩)] (valX l) l.length (KeepB n1) w := fun id J W hW hY h0 => by
  have hbx : W.cell? ⟨Bs, 0, none⟩ = some (.slice a l.length cap) := (hW.cell (p := ⟨Bs, 0, none⟩) (show Bs < w.heap.size by omega)).trans hBs
  have hc2 : IntsAt W n1 a l := fun j hj => by
    obtain ⟨b, off, h1, h2, h3⟩ := hc j hj
    exact ⟨b, off, h1, h2, (hW.cell (p := ⟨b, off + j, none⟩) (show b < w.heap.size by omega)).trans h3⟩
  have HC := hid hc2
  have hli : (l.length : Int) ≤ 1000 := by omega
  clear hc hc2 hBs
  refine callsIn_of_wp Tryz.func114 rfl hf ?_ hro
  simp only [Tryz.ntmps114, List.size_toArray, List.length_cons, List.length_nil, Nat.reduceAdd, Nat.reduceSub, Array.replicate_succ, Array.replicate_zero, List.push_toArray, List.append_toArray, List.nil_append, List.cons_append]
  gi_wp2
  gi_loopw [7] (fun i wr => ∃ k : Nat, k ≤ l.length ∧ i = .int .i64 (k : Int) ∧ J k wr ∧ KeepB n1 W wr)
    (fun i _ => l.length - (intOf i).toNat)
  case atStart => exact ⟨0, Nat.zero_le _, by simp, h0, KeepB.refl _ _⟩
  case round =>
    obtain ⟨k, hk, rfl, hJ, hkp⟩ := hrel
    by_cases hlt : k < l.length
    · have hlti : (k : Int) < l.length := by omega
      have hk0 : (0 : Int) ≤ k := by omega
      obtain ⟨b, off, rfl, hb1, c0⟩ := HC.out k hlt
      obtain ⟨fn, tmps, assign, body, hy, hR⟩ := hY k wr hlt hJ
      unfold valX at hy
      have d0 := hkp.cell hb1 c0
      clear c0
      generalize l.getD k 0 = x at *
      have HK := hid hkp
      clear hkp
      gi_wp2
      refine hR.mono ?_
      rintro e W3 ⟨rfl, hJ3, hk3⟩
      gi_wp2
      go_roundw
      case rel => exact ⟨k + 1, by omega, by go_num, hJ3, HK.out.trans hk3⟩
      case measure => simp [intOf]; omega
    · have hlti : ¬ (k : Int) < l.length := by omega
      obtain rfl : k = l.length := by omega
      gi_wp2
      go_end0
      exact ⟨⟨_, rfl⟩, hJ⟩
end Go.Proofs.YtdihbeffomibeaaGreatDoor
