/-
  The search for components in memory: what it holds; known.
-/
import Derived.BigRegion
import Derived.Deep.AppendLies
import Derived.Deep.RegionLaw
import Derived.Test.YtjgmkigfpjmlaabDoorZH
namespace Go.Proofs.YtjgmkigfpjmlaabDoor
set_option linter.unusedVariables false
set_option linter.unusedSimpArgs false
open Go.RowKit

theorem own_gro {B t k n : Nat} {P : Nat → Prop} {w w' : World} {v : Value} {xs : List Value} (h : w.ownsRow B t k v n xs) (hg : Gro P w w') (hn : ∀ g, v.ownBlock = some g → ¬ P g) : w'.ownsRow B t k v n xs := by
  refine ⟨h.1, ?_⟩
  rcases h.2 with h1 | ⟨g, cap, cur, hv, hB, hh, r⟩
  · exact .inl h1
  · exact .inr ⟨g, cap, cur, hv, hB, hg.at hh (hn g (by rw [hv]; rfl)), r⟩
theorem own_tag {B t k n : Nat} {w : World} {v : Value} {xs : List Value} (h : w.ownsRow B t k v n xs) {g : Nat} (hg : v.ownBlock = some g) : B ≤ g ∧ ∃ cur, w.heap[g]? = some (.cells cur t) := by
  rcases h.2 with ⟨hv, _⟩ | ⟨g', cap, cur, hv, hB, hh, _⟩
  · rw [hv] at hg; cases hg
  · rw [hv] at hg
    injection hg with hg
    subst hg
    exact ⟨hB, cur, hh⟩
theorem own_form {B t k n : Nat} {w : World} {v : Value} {xs : List Value} (h : w.ownsRow B t k v n xs) : ∃ a c, v = .slice a n c ∧ n ≤ c := by
  rcases h.2 with ⟨hv, hn⟩ | ⟨g', cap, cur, hv, hB, hh, hc, _⟩
  · exact ⟨none, 0, by rw [hv, hn], by omega⟩
  · exact ⟨_, cap, hv, hc⟩
/-- Marks in block mk. -/
def LayM (w : World) (mk n : Nat) (num low : Nat → Nat) : Prop := ∃ cur : Array Value, w.heap[mk]? = some (.cells cur 99) ∧ cur.size = n * 2 ∧ ∀ j, j < n → cur[j * 2]? = some (.int .i64 (num j)) ∧ cur[j * 2 + 1]? = some (.int .i64 (low j))
theorem LayM.gro {P : Nat → Prop} {w w' : World} {mk n : Nat} {num low : Nat → Nat} (h : LayM w mk n num low) (hg : Gro P w w') (hn : ¬ P mk) : LayM w' mk n num low := by
  obtain ⟨cur, h1, h2⟩ := h
  exact ⟨cur, hg.at h1 hn, h2⟩
theorem LayM.cell {w : World} {mk n : Nat} {num low : Nat → Nat} (h : LayM w mk n num low) (j : Nat) (hj : j < n) : w.cell? ⟨mk, j * 2, none⟩ = some (.int .i64 (num j)) ∧ w.cell? ⟨mk, j * 2 + 1, none⟩ = some (.int .i64 (low j)) ∧ w.frozen? ⟨mk, j * 2, none⟩ = false ∧ w.frozen? ⟨mk, j * 2 + 1, none⟩ = false := by
  obtain ⟨cur, h1, h2, h3⟩ := h
  exact ⟨(Lib.cell_of_heap h1 _).trans (h3 j hj).1, (Lib.cell_of_heap h1 _).trans (h3 j hj).2, Lib.frozen_of_heap h1 _, Lib.frozen_of_heap h1 _⟩
theorem LayM.low {w : World} {mk n : Nat} {num low : Nat → Nat} (h : LayM w mk n num low) (i x : Nat) (hi : i < n) : LayM (w.setCell ⟨mk, i * 2 + 1, none⟩ (.int .i64 x)) mk n num (updN low i x) := by
  obtain ⟨cur, h1, h2, h3⟩ := h
  refine ⟨cur.setIfInBounds (i * 2 + 1) (.int .i64 x), Go.Joins.block_setCell h1 _, by simpa using h2, fun j hj => ⟨?_, ?_⟩⟩
  · rw [Array.getElem?_setIfInBounds_ne (by omega)]
    exact (h3 j hj).1
  · by_cases e : j = i
    · subst e
      rw [Array.getElem?_setIfInBounds_self_of_lt (by omega), updN_self]
    · rw [Array.getElem?_setIfInBounds_ne (by omega), updN_ne _ _ _ _ e]
      exact (h3 j hj).2
theorem LayM.num {w : World} {mk n : Nat} {num low : Nat → Nat} (h : LayM w mk n num low) (i x : Nat) (hi : i < n) : LayM (w.setCell ⟨mk, i * 2, none⟩ (.int .i64 x)) mk n (updN num i x) low := by
  obtain ⟨cur, h1, h2, h3⟩ := h
  refine ⟨cur.setIfInBounds (i * 2) (.int .i64 x), Go.Joins.block_setCell h1 _, by simpa using h2, fun j hj => ⟨?_, ?_⟩⟩
  · by_cases e : j = i
    · subst e
      rw [Array.getElem?_setIfInBounds_self_of_lt (by omega), updN_self]
    · rw [Array.getElem?_setIfInBounds_ne (by omega), updN_ne _ _ _ _ e]
      exact (h3 j hj).1
  · rw [Array.getElem?_setIfInBounds_ne (by omega)]
    exact (h3 j hj).2
/-- A stop: a node, what is left of its edges, and the slice that holds that. -/
abbrev Stp : Type := (Nat × List Nat) × Value
def waysC (ws : List Stp) : List Value := ws.flatMap fun p => [.int .i64 (p.1.1 : Int), p.2]
theorem waysC_snoc (ws : List Stp) (p : Stp) : waysC (ws ++ [p]) = waysC ws ++ [.int .i64 (p.1.1 : Int), p.2] := by simp [waysC]
theorem waysC_len (ws : List Stp) : (waysC ws).length = ws.length * 2 := by
  induction ws with
  | nil => rfl
  | cons a l ih => simp only [waysC, List.flatMap_cons, List.length_append, List.length_cons, List.length_nil] at ih ⊢; omega
/-- Not a block of the open nodes. -/
def OffB (H : Nat) (ov : Value) (g : Nat) : Prop := H ≤ g ∧ ov.ownBlock ≠ some g
def natI (l : List Nat) : List Int := l.map fun x : Nat => (x : Int)
/-- A search in memory. -/
structure Sr (w : World) (H sb mk : Nat) (outf wv ov fv : Value) (n come : Nat) (num low : Nat → Nat) (ws : List Stp) (opn : List Nat) (fs : List (List Nat × Value)) : Prop where
  box : w.heap[sb]? = some (.cells #[outf, .slice (some ⟨mk, 0, none⟩) n n, .int .i64 come, wv, ov, fv] 74)
  marks : LayM w mk n num low
  wayR : w.ownsRow H 102 2 wv ws.length (waysC ws)
  rests : ∀ p ∈ ws, Part (OffB H ov) w p.2 (natI p.1.2)
  opnR : w.ownsRow H 3 1 ov opn.length (intsV opn)
  fndR : w.ownsRow H 28 1 fv fs.length (fs.map Prod.snd)
  cmps : ∀ p ∈ fs, Part (OffB H ov) w p.2 (natI p.1)
  high : H ≤ sb ∧ H ≤ mk
theorem Sr.cells {w : World} {H sb mk : Nat} {outf wv ov fv : Value} {n come : Nat} {num low : Nat → Nat} {ws : List Stp} {opn : List Nat} {fs : List (List Nat × Value)} (h : Sr w H sb mk outf wv ov fv n come num low ws opn fs) :
    w.cell? ⟨sb, 0, none⟩ = some outf ∧ w.cell? ⟨sb, 1, none⟩ = some (.slice (some ⟨mk, 0, none⟩) n n) ∧ w.cell? ⟨sb, 2, none⟩ = some (.int .i64 come) ∧ w.cell? ⟨sb, 3, none⟩ = some wv ∧ w.cell? ⟨sb, 4, none⟩ = some ov ∧ w.cell? ⟨sb, 5, none⟩ = some fv :=
  ⟨Lib.cell_of_heap h.box 0, Lib.cell_of_heap h.box 1, Lib.cell_of_heap h.box 2, Lib.cell_of_heap h.box 3, Lib.cell_of_heap h.box 4, Lib.cell_of_heap h.box 5⟩
theorem Sr.fz {w : World} {H sb mk : Nat} {outf wv ov fv : Value} {n come : Nat} {num low : Nat → Nat} {ws : List Stp} {opn : List Nat} {fs : List (List Nat × Value)} (h : Sr w H sb mk outf wv ov fv n come num low ws opn fs) (i : Nat) : w.frozen? ⟨sb, i, none⟩ = false := Lib.frozen_of_heap h.box i
/-- What is new behind, or no block of the search, plays no part. -/
theorem Sr.later {w w' : World} {H sb mk : Nat} {outf wv ov fv : Value} {n come : Nat} {num low : Nat → Nat} {ws : List Stp} {opn : List Nat} {fs : List (List Nat × Value)} (h : Sr w H sb mk outf wv ov fv n come num low ws opn fs) (hb : Below w.heap.size w w') : Sr w' H sb mk outf wv ov fv n come num low ws opn fs := by
  have hg : Gro (fun _ => False) w w' := Gro.of_below hb
  exact ⟨hg.at h.box (fun x => x), h.marks.gro hg (fun x => x), own_gro h.wayR hg (fun _ _ x => x), fun p hp => (h.rests p hp).gro hg (fun _ _ x => x), own_gro h.opnR hg (fun _ _ x => x), own_gro h.fndR hg (fun _ _ x => x), fun p hp => (h.cmps p hp).gro hg (fun _ _ x => x), h.high⟩
theorem Sr.apart {w : World} {H sb mk : Nat} {outf wv ov fv : Value} {n come : Nat} {num low : Nat → Nat} {ws : List Stp} {opn : List Nat} {fs : List (List Nat × Value)} (h : Sr w H sb mk outf wv ov fv n come num low ws opn fs) :
    sb ≠ mk ∧ wv.ownBlock ≠ some sb ∧ wv.ownBlock ≠ some mk ∧ ov.ownBlock ≠ some sb ∧ ov.ownBlock ≠ some mk ∧ fv.ownBlock ≠ some sb ∧ fv.ownBlock ≠ some mk := by
  obtain ⟨cur, hm, _⟩ := h.marks
  refine ⟨tags h.box hm (by decide), ?_, ?_, ?_, ?_, ?_, ?_⟩ <;> intro e
  · obtain ⟨_, c, hc⟩ := own_tag h.wayR e; exact tags h.box hc (by decide) rfl
  · obtain ⟨_, c, hc⟩ := own_tag h.wayR e; exact tags hm hc (by decide) rfl
  · obtain ⟨_, c, hc⟩ := own_tag h.opnR e; exact tags h.box hc (by decide) rfl
  · obtain ⟨_, c, hc⟩ := own_tag h.opnR e; exact tags hm hc (by decide) rfl
  · obtain ⟨_, c, hc⟩ := own_tag h.fndR e; exact tags h.box hc (by decide) rfl
  · obtain ⟨_, c, hc⟩ := own_tag h.fndR e; exact tags hm hc (by decide) rfl
theorem part_tag {P : Nat → Prop} {w : World} {v : Value} {l : List Int} (h : Part P w v l) : v = .slice none 0 0 ∨ ∃ g off cap cur, v = .slice (some ⟨g, off, none⟩) l.length cap ∧ P g ∧ w.heap[g]? = some (.cells cur 3) := by
  rcases h with h | ⟨g, off, cap, cur, h1, h2, h3, _⟩
  · exact .inl h.1
  · exact .inr ⟨g, off, cap, cur, h1, h2, h3⟩
/-- A part whose block is of another kind than the one that is turned stays. -/
theorem part_set {P : Nat → Prop} {w : World} {v : Value} {l : List Int} (h : Part P w v l) (x i : Nat) (y : Value) {cs : Array Value} {t : TypeId} (hx : w.heap[x]? = some (.cells cs t)) (ht : t ≠ 3) : Part P (w.setCell ⟨x, i, none⟩ y) v l := by
  rcases h with h | ⟨g, off, cap, cur, h1, h2, h3, h4⟩
  · exact .inl h
  · exact .inr ⟨g, off, cap, cur, h1, h2, (Below.heap_setCell w ⟨x, i, none⟩ y g (fun e => by have e' : g = x := e; exact tags h3 hx (fun c => ht c.symm) e')).trans h3, h4⟩
theorem own_set {B t k n : Nat} {w : World} {v : Value} {xs : List Value} (h : w.ownsRow B t k v n xs) (x i : Nat) (y : Value) {cs : Array Value} {t' : TypeId} (hx : w.heap[x]? = some (.cells cs t')) (ht : t ≠ t') : (w.setCell ⟨x, i, none⟩ y).ownsRow B t k v n xs :=
  own_gro h (gro_set w ⟨x, i, none⟩ y) (fun g hg e => by obtain ⟨_, c, hc⟩ := own_tag h hg; exact tags hc hx ht e)
/-- A cell of the search itself is turned. -/
theorem Sr.mark {w : World} {H sb mk : Nat} {outf wv ov fv : Value} {n come : Nat} {num low : Nat → Nat} {ws : List Stp} {opn : List Nat} {fs : List (List Nat × Value)} (h : Sr w H sb mk outf wv ov fv n come num low ws opn fs) (i : Nat) (y : Value) {num' low' : Nat → Nat} (hm : LayM (w.setCell ⟨mk, i, none⟩ y) mk n num' low') : Sr (w.setCell ⟨mk, i, none⟩ y) H sb mk outf wv ov fv n come num' low' ws opn fs := by
  obtain ⟨cur, hk, _⟩ := h.marks
  exact ⟨(Below.heap_setCell w ⟨mk, i, none⟩ y sb (fun e => h.apart.1 e)).trans h.box, hm, own_set h.wayR mk i y hk (by decide), fun p hp => part_set (h.rests p hp) mk i y hk (by decide), own_set h.opnR mk i y hk (by decide), own_set h.fndR mk i y hk (by decide), fun p hp => part_set (h.cmps p hp) mk i y hk (by decide), h.high⟩

set_option maxHeartbeats 2000000 in
set_option maxRecDepth 100000 in
theorem known_yes {w : World} {H sb mk : Nat} {outf wv ov fv : Value} {n come : Nat} {num low : Nat → Nat} {ws : List Stp} {opn : List Nat} {fs : List (List Nat × Value)} (h : Sr w H sb mk outf wv ov fv n come num low ws opn fs) (v : Nat) (hv : v < n) (hk : num v ≠ 0) :
    Calls Tryd.prog 38 #[.pointer (some ⟨sb, 0, none⟩), .int .i64 v] w fun e w' => e = .returned (.bool true) ∧ w = w' := by
  obtain ⟨c0, c1, c2, c3, c4, c5⟩ := h.cells
  obtain ⟨m0, m1, _, _⟩ := h.marks.cell v hv
  have hvi : (v : Int) < n := by omega
  have hv0 : (0 : Int) ≤ v := by omega
  have hki : ¬ (num v : Int) = 0 := by omega
  have hkb : ((num v : Int) == 0) = false := by simpa using hki
  clear c0 c2 c3 c4 c5 h hk
  generalize num v = a at *
  generalize low v = b at *
  go_enter Tryd.func38, Tryd.ntmps38
  go_wp2_with fail
  go_ret
  exact ⟨rfl, rfl⟩
set_option maxHeartbeats 2000000 in
set_option maxRecDepth 100000 in
theorem known_no {w : World} {H sb mk : Nat} {outf wv ov fv : Value} {n come : Nat} {num low : Nat → Nat} {ws : List Stp} {opn : List Nat} {fs : List (List Nat × Value)} (h : Sr w H sb mk outf wv ov fv n come num low ws opn fs) (v : Nat) (hv : v < n) (hk : num v = 0) (hl : low v = 0) :
    Calls Tryd.prog 38 #[.pointer (some ⟨sb, 0, none⟩), .int .i64 v] w fun e w' => e = .returned (.bool false) ∧ w = w' := by
  obtain ⟨c0, c1, c2, c3, c4, c5⟩ := h.cells
  obtain ⟨m0, m1, _, _⟩ := h.marks.cell v hv
  have hvi : (v : Int) < n := by omega
  have hv0 : (0 : Int) ≤ v := by omega
  rw [hk] at m0
  rw [hl] at m1
  clear c0 c2 c3 c4 c5 h hk hl
  go_enter Tryd.func38, Tryd.ntmps38
  go_wp2_with fail
  go_ret
  exact ⟨rfl, rfl⟩
end Go.Proofs.YtjgmkigfpjmlaabDoor

/-
  The search for components: how a search in memory grows and shrinks.
-/
namespace Go.Proofs.YtjgmkigfpjmlaabDoor
set_option linter.unusedVariables false
set_option linter.unusedSimpArgs false
open Go.RowKit

theorem gro_of_grown {w w' : World} {row : Option Nat} (h : w.grownBy w' row) : Gro (fun k => row = some k) w w' := ⟨h.os, h.tape, h.output, h.size, fun k hk hn => h.block k hk (fun e => hn e.symm)⟩
theorem part_mono {P Q : Nat → Prop} {w : World} {v : Value} {l : List Int} (h : Part P w v l) (hpq : ∀ g, g < w.heap.size → P g → Q g) : Part Q w v l := by
  rcases h with h | ⟨g, off, cap, cur, h1, h2, h3, h4⟩
  · exact .inl h
  · exact .inr ⟨g, off, cap, cur, h1, hpq g (blt h3) h2, h3, h4⟩
section
variable {w w4 : World} {H sb mk : Nat} {outf wv ov fv : Value} {n come : Nat} {num low : Nat → Nat} {ws : List Stp} {opn : List Nat} {fs : List (List Nat × Value)}
/-- Blocks that are none of the search's own may turn. -/
theorem Sr.comes (h : Sr w H sb mk outf wv ov fv n come num low ws opn fs) (x : Nat) : Sr (w.setCell ⟨sb, 2, none⟩ (.int .i64 x)) H sb mk outf wv ov fv n x num low ws opn fs := by
  have hg := gro_set w ⟨sb, 2, none⟩ (.int .i64 x)
  have ha := h.apart
  exact ⟨Go.Joins.block_setCell h.box _, h.marks.gro hg (fun e => ha.1 e.symm), own_set h.wayR sb 2 _ h.box (by decide), fun p hp => part_set (h.rests p hp) sb 2 _ h.box (by decide), own_set h.opnR sb 2 _ h.box (by decide), own_set h.fndR sb 2 _ h.box (by decide), fun p hp => part_set (h.cmps p hp) sb 2 _ h.box (by decide), h.high⟩
theorem Sr.pushOpen (h : Sr w H sb mk outf wv ov fv n come num low ws opn fs) (v : Nat) (v4 : Value) (hg : Gro (fun k => ov.ownBlock = some k) w w4) (hrow : w4.ownsRow H 3 1 v4 (opn.length + 1) (intsV opn ++ [.int .i64 v])) (hblk : ∀ g, v4.ownBlock = some g → ov.ownBlock = some g ∨ w.heap.size ≤ g) :
    Sr (w4.setCell ⟨sb, 4, none⟩ v4) H sb mk outf wv v4 fv n come num low ws (opn ++ [v]) fs := by
  obtain ⟨a1, a2, a3, a4, a5, a6, a7⟩ := h.apart
  have hb4 := hg.at h.box a4
  have hpart : ∀ {v : Value} {l : List Int}, Part (OffB H ov) w v l → Part (OffB H v4) (w4.setCell ⟨sb, 4, none⟩ v4) v l := fun {v} {l} hp =>
    part_set ((part_mono hp (Q := fun g => OffB H v4 g ∧ ov.ownBlock ≠ some g) (fun g hgs hP => ⟨⟨hP.1, fun e => (hblk g e).elim hP.2 (fun h1 => absurd hgs (Nat.not_lt.2 h1))⟩, hP.2⟩)).gro hg (fun k hk => hk.2) |> fun q => part_mono q (fun g _ hP => hP.1)) sb 4 _ hb4 (by decide)
  have hoff : ∀ {t k m : Nat} {x : Value} {xs : List Value}, t ≠ 3 → w.ownsRow H t k x m xs → w4.ownsRow H t k x m xs := fun {t k m x xs} ht hr => own_gro hr hg (fun g hgx e => by
    obtain ⟨_, c, hc⟩ := own_tag hr hgx
    obtain ⟨_, c', hc'⟩ := own_tag h.opnR e
    exact tags hc hc' ht rfl)
  refine ⟨Go.Joins.block_setCell hb4 _, (h.marks.gro hg a5).gro (gro_set _ _ _) (fun e => a1 e.symm), own_set (hoff (by decide) h.wayR) sb 4 _ hb4 (by decide), fun p hp => hpart (h.rests p hp), ?_, own_set (hoff (by decide) h.fndR) sb 4 _ hb4 (by decide), fun p hp => hpart (h.cmps p hp), h.high⟩
  have := own_set hrow sb 4 v4 hb4 (by decide)
  rw [List.length_append, List.length_singleton]
  simpa [intsV] using this
theorem Sr.pushWay (h : Sr w H sb mk outf wv ov fv n come num low ws opn fs) (v : Nat) (l : List Nat) (rv v4 : Value) (hg : Gro (fun k => wv.ownBlock = some k) w w4) (hrow : w4.ownsRow H 102 2 v4 (ws.length + 1) (waysC ws ++ [.int .i64 v, rv])) (hp : Part (OffB H ov) w rv (natI l)) :
    Sr (w4.setCell ⟨sb, 3, none⟩ v4) H sb mk outf v4 ov fv n come num low (ws ++ [((v, l), rv)]) opn fs := by
  obtain ⟨a1, a2, a3, a4, a5, a6, a7⟩ := h.apart
  have hb4 := hg.at h.box a2
  have hpart : ∀ {v : Value} {l : List Int}, Part (OffB H ov) w v l → Part (OffB H ov) (w4.setCell ⟨sb, 3, none⟩ v4) v l := fun {v} {l} hp => by
    refine part_set ?_ sb 3 _ hb4 (by decide)
    rcases hp with h1 | ⟨g, off, cap, cur, h1, h2, h3, h4⟩
    · exact .inl h1
    · exact .inr ⟨g, off, cap, cur, h1, h2, hg.at h3 (fun e => by obtain ⟨_, c, hc⟩ := own_tag h.wayR e; exact tags hc h3 (by decide) rfl), h4⟩
  have hoff : ∀ {t k m : Nat} {x : Value} {xs : List Value}, t ≠ 102 → w.ownsRow H t k x m xs → w4.ownsRow H t k x m xs := fun {t k m x xs} ht hr => own_gro hr hg (fun g hgx e => by
    obtain ⟨_, c, hc⟩ := own_tag hr hgx
    obtain ⟨_, c', hc'⟩ := own_tag h.wayR e
    exact tags hc hc' ht rfl)
  refine ⟨Go.Joins.block_setCell hb4 _, (h.marks.gro hg a3).gro (gro_set _ _ _) (fun e => a1 e.symm), ?_, fun p hq => ?_, own_set (hoff (by decide) h.opnR) sb 3 _ hb4 (by decide), own_set (hoff (by decide) h.fndR) sb 3 _ hb4 (by decide), fun p hp => hpart (h.cmps p hp), h.high⟩
  · have := own_set hrow sb 3 v4 hb4 (by decide)
    rw [List.length_append, List.length_singleton, waysC_snoc]
    exact this
  · rcases List.mem_append.1 hq with hq | hq
    · exact hpart (h.rests p hq)
    · obtain rfl : p = ((v, l), rv) := by simpa using hq
      exact hpart hp
theorem Sr.pushFound (h : Sr w H sb mk outf wv ov fv n come num low ws opn fs) (c : List Nat) (cv v4 : Value) (hg : Gro (fun k => fv.ownBlock = some k) w w4) (hrow : w4.ownsRow H 28 1 v4 (fs.length + 1) (fs.map Prod.snd ++ [cv])) (hp : Part (OffB H ov) w cv (natI c)) :
    Sr (w4.setCell ⟨sb, 5, none⟩ v4) H sb mk outf wv ov v4 n come num low ws opn (fs ++ [(c, cv)]) := by
  obtain ⟨a1, a2, a3, a4, a5, a6, a7⟩ := h.apart
  have hb4 := hg.at h.box a6
  have hpart : ∀ {v : Value} {l : List Int}, Part (OffB H ov) w v l → Part (OffB H ov) (w4.setCell ⟨sb, 5, none⟩ v4) v l := fun {v} {l} hp => by
    refine part_set ?_ sb 5 _ hb4 (by decide)
    rcases hp with h1 | ⟨g, off, cap, cur, h1, h2, h3, h4⟩
    · exact .inl h1
    · exact .inr ⟨g, off, cap, cur, h1, h2, hg.at h3 (fun e => by obtain ⟨_, c, hc⟩ := own_tag h.fndR e; exact tags hc h3 (by decide) rfl), h4⟩
  have hoff : ∀ {t k m : Nat} {x : Value} {xs : List Value}, t ≠ 28 → w.ownsRow H t k x m xs → w4.ownsRow H t k x m xs := fun {t k m x xs} ht hr => own_gro hr hg (fun g hgx e => by
    obtain ⟨_, c, hc⟩ := own_tag hr hgx
    obtain ⟨_, c', hc'⟩ := own_tag h.fndR e
    exact tags hc hc' ht rfl)
  refine ⟨Go.Joins.block_setCell hb4 _, (h.marks.gro hg a7).gro (gro_set _ _ _) (fun e => a1 e.symm), own_set (hoff (by decide) h.wayR) sb 5 _ hb4 (by decide), fun p hq => hpart (h.rests p hq), own_set (hoff (by decide) h.opnR) sb 5 _ hb4 (by decide), ?_, fun p hq => ?_, h.high⟩
  · have := own_set hrow sb 5 v4 hb4 (by decide)
    rw [List.length_append, List.length_singleton, List.map_append]
    exact this
  · rcases List.mem_append.1 hq with hq | hq
    · exact hpart (h.cmps p hq)
    · obtain rfl : p = (c, cv) := by simpa using hq
      exact hpart hp
/-- A row cut short. -/
theorem own_cutN {B t k m N : Nat} {a : Option Addr} {c : Nat} {xs : List Value} (h : w.ownsRow B t k (.slice a N c) N xs) (hm : m ≤ N) (h0 : 0 < N) : w.ownsRow B t k (.slice a m c) m (xs.take (m * k)) := by
  rcases h.2 with ⟨hv, hn⟩ | ⟨g, cap, cur, hv, hB, hh, h1, h2, h3, h4⟩
  · omega
  · have hmk : m * k ≤ N * k := Nat.mul_le_mul_right k hm
    refine ⟨by rw [List.length_take, h.1]; omega, .inr ⟨g, cap, cur, ?_, hB, hh, by omega, h2, h3, ?_⟩⟩
    · injection hv with e1 e2 e3
      rw [e1, e3]
    · rw [← h4, List.take_take]
      congr 1
      omega
theorem Sr.cutWay {A : List Stp} {p : Stp} {wa : Option Addr} {cap : Nat} (h : Sr w H sb mk outf (.slice wa (A.length + 1) cap) ov fv n come num low (A ++ [p]) opn fs) :
    Sr (w.setCell ⟨sb, 3, none⟩ (.slice wa A.length cap)) H sb mk outf (.slice wa A.length cap) ov fv n come num low A opn fs := by
  obtain ⟨a1, a2, a3, a4, a5, a6, a7⟩ := h.apart
  have hr := h.wayR
  rw [List.length_append, List.length_singleton, waysC_snoc] at hr
  have hr2 := own_cutN hr (m := A.length) (by omega) (by omega)
  rw [List.take_append_of_le_length (by rw [waysC_len]; omega), List.take_of_length_le (by rw [waysC_len]; omega)] at hr2
  exact ⟨Go.Joins.block_setCell h.box _, h.marks.gro (gro_set _ _ _) (fun e => a1 e.symm), own_set hr2 sb 3 _ h.box (by decide), fun p hp => part_set (h.rests p (List.mem_append_left _ hp)) sb 3 _ h.box (by decide), own_set h.opnR sb 3 _ h.box (by decide), own_set h.fndR sb 3 _ h.box (by decide), fun p hp => part_set (h.cmps p hp) sb 3 _ h.box (by decide), h.high⟩
theorem Sr.cutOpen {O1 O2 : List Nat} {oa : Option Addr} {cap N : Nat} (h : Sr w H sb mk outf wv (.slice oa N cap) fv n come num low ws (O1 ++ O2) fs) (hN : N = O1.length + O2.length) (h0 : 0 < N) :
    Sr (w.setCell ⟨sb, 4, none⟩ (.slice oa O1.length cap)) H sb mk outf wv (.slice oa O1.length cap) fv n come num low ws O1 fs := by
  obtain ⟨a1, a2, a3, a4, a5, a6, a7⟩ := h.apart
  have hr := h.opnR
  rw [List.length_append, ← hN] at hr
  have hr2 := own_cutN hr (m := O1.length) (by omega) h0
  have e : (intsV (O1 ++ O2)).take (O1.length * 1) = intsV O1 := by simp [intsV]
  rw [e] at hr2
  have hob : (Value.slice oa O1.length cap).ownBlock = (Value.slice oa N cap).ownBlock := by cases oa <;> rfl
  have hoff : ∀ g, OffB H (.slice oa N cap) g → OffB H (.slice oa O1.length cap) g := fun g hg => ⟨hg.1, by rw [hob]; exact hg.2⟩
  exact ⟨Go.Joins.block_setCell h.box _, h.marks.gro (gro_set _ _ _) (fun e => a1 e.symm), own_set h.wayR sb 4 _ h.box (by decide), fun p hp => part_set (part_mono (h.rests p hp) (fun g _ => hoff g)) sb 4 _ h.box (by decide), own_set hr2 sb 4 _ h.box (by decide), own_set h.fndR sb 4 _ h.box (by decide), fun p hp => part_set (part_mono (h.cmps p hp) (fun g _ => hoff g)) sb 4 _ h.box (by decide), h.high⟩
theorem list_set2 (A : List Stp) (p : Stp) (cur : Array Value) (rv' : Value) (hs : (A.length + 1) * 2 ≤ cur.size) (h : cur.toList.take ((A.length + 1) * 2) = waysC (A ++ [p])) : (cur.setIfInBounds (A.length * 2 + 1) rv').toList.take ((A.length + 1) * 2) = waysC (A ++ [((p.1.1, p.1.2.tail), rv')]) := by
  rw [waysC_snoc] at h ⊢
  rw [Array.toList_setIfInBounds, List.take_set, h]
  rw [List.set_append_right _ _ (by rw [waysC_len]; omega), waysC_len]
  rw [show A.length * 2 + 1 - A.length * 2 = 1 by omega]
  rfl
/-- The last stop goes on by one edge. -/
theorem Sr.setRest {A : List Stp} {u x : Nat} {t : List Nat} {rv rv' : Value} {gw cap : Nat} (h : Sr w H sb mk outf (.slice (some ⟨gw, 0, none⟩) (A.length + 1) cap) ov fv n come num low (A ++ [((u, x :: t), rv)]) opn fs) (hp : Part (OffB H ov) w rv' (natI t)) :
    Sr (w.setCell ⟨gw, A.length * 2 + 1, none⟩ rv') H sb mk outf (.slice (some ⟨gw, 0, none⟩) (A.length + 1) cap) ov fv n come num low (A ++ [((u, t), rv')]) opn fs := by
  obtain ⟨a1, a2, a3, a4, a5, a6, a7⟩ := h.apart
  have hr := h.wayR
  rcases hr.2 with ⟨hv, _⟩ | ⟨g, cap', cur, hv, hB, hh, h1, h2, h3, h4⟩
  · cases hv
  injection hv with e1 e2 e3
  injection e1 with e1
  injection e1 with e1
  subst e1
  subst e3
  rw [List.length_append, List.length_singleton] at h1 h4
  refine ⟨(Below.heap_setCell w ⟨gw, A.length * 2 + 1, none⟩ rv' sb (fun e => a2 (by rw [show sb = gw from e]; rfl))).trans h.box, h.marks.gro (gro_set _ _ _) (fun e => a3 (by rw [show mk = gw from e]; rfl)), ?_, fun p hq => ?_, own_set h.opnR gw _ _ hh (by decide), own_set h.fndR gw _ _ hh (by decide), fun p hq => part_set (h.cmps p hq) gw _ _ hh (by decide), h.high⟩
  · rw [List.length_append, List.length_singleton]
    refine ⟨by rw [waysC_len]; simp, .inr ⟨gw, cap, cur.setIfInBounds (A.length * 2 + 1) rv', rfl, hB, Go.Joins.block_setCell hh _, h1, h2, by simpa using h3, ?_⟩⟩
    exact list_set2 A ((u, x :: t), rv) cur rv' (by have := Nat.mul_le_mul_right 2 h1; omega) h4
  · rcases List.mem_append.1 hq with hq | hq
    · exact part_set (h.rests p (List.mem_append_left _ hq)) gw _ _ hh (by decide)
    · obtain rfl : p = ((u, t), rv') := by simpa using hq
      exact part_set hp gw _ _ hh (by decide)
end
end Go.Proofs.YtjgmkigfpjmlaabDoor

/-
  The search for components: the edges of a node; enter.
-/
namespace Go.Proofs.YtjgmkigfpjmlaabDoor
set_option linter.unusedVariables false
set_option linter.unusedSimpArgs false
open Go.RowKit

/-- What the search begins with: the graph, and the boxes of its arguments. -/
structure Env (W : World) (b n r : Nat) (bk ck : Nat → Nat) (L : Nat → Nat → Nat) (labels : Int) (gb lb : Nat) : Prop where
  graph : Graph W b n r bk ck L
  tab : Tab W
  cg : W.cell? ⟨gb, 0, none⟩ = some (.pointer (some ⟨b, 0, none⟩))
  cl : W.cell? ⟨lb, 0, none⟩ = some (.int .i64 labels)
def outF (gb lb : Nat) : Value := .func (.func 36) #[] #[.pointer (some ⟨gb, 0, none⟩), .pointer (some ⟨lb, 0, none⟩)]
theorem Env.later {W w : World} {b n r : Nat} {bk ck : Nat → Nat} {L : Nat → Nat → Nat} {labels : Int} {gb lb : Nat} (h : Env W b n r bk ck L labels gb lb) (hb : Below W.heap.size W w) : Env w b n r bk ck L labels gb lb :=
  ⟨h.graph.later hb, h.tab.later hb, (hb.cell (p := ⟨gb, 0, none⟩) (World.block_lt_of_cell? _ _ h.cg)).trans h.cg, (hb.cell (p := ⟨lb, 0, none⟩) (World.block_lt_of_cell? _ _ h.cl)).trans h.cl⟩
set_option maxHeartbeats 2000000 in
set_option maxRecDepth 100000 in
theorem outc_is {w : World} {b n r : Nat} {bk ck : Nat → Nat} {L : Nat → Nat → Nat} {labels : Int} {gb lb : Nat} (h : Env w b n r bk ck L labels gb lb) (v : Nat) (hv : v < n) :
    Calls Tryd.prog 36 #[.int .i64 v, .pointer (some ⟨gb, 0, none⟩), .pointer (some ⟨lb, 0, none⟩)] w fun e w' => (∃ rv, e = .returned rv ∧ Ints w.heap.size w' rv (lst (edge L labels v) n)) ∧ Below w.heap.size w w' := by
  have cg := h.cg
  have cl := h.cl
  have OK := hid (out_ok b n r v bk ck L labels w h.graph hv h.tab)
  clear h
  go_enter Tryd.func36, Tryd.ntmps36
  go_wp2_with fail
  go_at_call 35
  refine OK.out.mono ?_
  rintro e w' ⟨⟨rv, rfl, i4⟩, b4⟩
  have I4 := hid i4
  have B4 := hid b4
  obtain ⟨ra, rc, rfl⟩ := i4.form
  clear i4 b4
  go_wp2_with fail
  go_ret
  exact ⟨⟨_, rfl, I4.out⟩, B4.out⟩
theorem Ints.partOff {B : Nat} {P : Nat → Prop} {w : World} {v : Value} {l : List Nat} (h : Ints B w v l) (hP : ∀ g, B ≤ g → P g) : Part P w v (natI l) := by
  rcases h.2 with ⟨rfl, hn⟩ | ⟨g, cap, cur, hv, hb, hg, h1, h2, h3, h4⟩
  · rw [List.length_eq_zero_iff.1 hn]
    exact .inl ⟨rfl, rfl⟩
  · have hlen : (natI l).length = l.length := by simp [natI]
    refine .inr ⟨g, 0, cap, cur, by rw [hlen]; exact hv, hP g hb, hg, by rw [hlen]; exact h1, h2, by omega, fun j hj => ?_⟩
    rw [hlen] at hj
    have e : cur.toList[j]? = (cur.toList.take (l.length * 1))[j]? := by rw [List.getElem?_take, if_pos (by omega)]
    rw [Nat.zero_add, ← Array.getElem?_toList, e, h4]
    simp [natI, intsV, List.getElem?_map, List.getD, hj]
theorem Tryd.infoStop : (Tryd.prog.info? 102).map (fun i => (i.zero, i.size, i.bytes)) = some (some (.agg #[.int .i64 0, .slice none 0 0]), 2, 32) := by kernel_rfl

set_option maxHeartbeats 8000000 in
set_option maxRecDepth 100000 in
theorem enter_is {Wb w : World} {b n r : Nat} {bk ck : Nat → Nat} {L : Nat → Nat → Nat} {labels : Int} {gb lb : Nat} (hE : Env Wb b n r bk ck L labels gb lb) (hB : Below Wb.heap.size Wb w) {sb mk : Nat} {wv ov fv : Value} {come : Nat} {num low : Nat → Nat} {ws : List Stp} {opn : List Nat} {fs : List (List Nat × Value)}
    (h : Sr w Wb.heap.size sb mk (outF gb lb) wv ov fv n come num low ws opn fs) (v : Nat) (hv : v < n) (hc : come < 300) (hw : ws.length ≤ 300) (ho : opn.length ≤ 300) :
    Calls Tryd.prog 58 #[.pointer (some ⟨sb, 0, none⟩), .int .i64 v] w fun e w' => e = .returned (.tuple #[]) ∧ (∃ rv wv' ov', Sr w' Wb.heap.size sb mk (outF gb lb) wv' ov' fv n (come + 1) (updN num v (come + 1)) (updN low v (come + 1)) (ws ++ [((v, lst (edge L labels v) n), rv)]) (opn ++ [v]) fs) ∧ Below Wb.heap.size Wb w' := by
  obtain ⟨i3, hi3, hz3⟩ := Option.map_eq_some_iff.1 Tryd.info3i
  simp only [Prod.mk.injEq] at hz3
  obtain ⟨z30, z31, z32⟩ := hz3
  obtain ⟨iS, hiS, hzS⟩ := Option.map_eq_some_iff.1 Tryd.infoStop
  simp only [Prod.mk.injEq] at hzS
  obtain ⟨zS0, zS1, zS2⟩ := hzS
  have HI3 := hid hi3
  have HZ30 := hid z30
  have HZ31 := hid z31
  have HZ32 := hid z32
  have HIS := hid hiS
  have HZS0 := hid zS0
  have HZS1 := hid zS1
  have HZS2 := hid zS2
  clear hi3 z30 z31 z32 hiS zS0 zS1 zS2
  have HE := hid hE
  have HB := hid hB
  have hsz := hB.size
  have hci : (come : Int) < 300 := by omega
  have hc0 : (0 : Int) ≤ come := by omega
  have hvi : (v : Int) < n := by omega
  have hv0 : (0 : Int) ≤ v := by omega
  -- the count
  have S1 := hid (h.comes (come + 1))
  have B1 : Hid (Below Wb.heap.size Wb (w.setCell ⟨sb, 2, none⟩ (.int .i64 ((come + 1 : Nat) : Int)))) := hB.setCell h.high.1 _
  obtain ⟨c0, c1, c2, c3, c4, c5⟩ := h.cells
  have f2 := h.fz 2
  have hcast : ((come + 1 : Nat) : Int) = (come : Int) + 1 := by omega
  rw [hcast] at S1 B1
  have hhi := h.high
  clear h hB hE c0 c1 c3 c4 c5
  go_enter Tryd.func58, Tryd.ntmps58
  go_wp2_with fail
  clear c2 f2
  generalize w.setCell ⟨sb, 2, none⟩ (.int .i64 ((come : Int) + 1)) = w1 at *
  -- the mark
  obtain ⟨c0, c1, c2, c3, c4, c5⟩ := S1.out.cells
  obtain ⟨m0, m1, g0, g1⟩ := S1.out.marks.cell v hv
  rw [hcast] at c2
  have S2 : Hid (Sr ((w1.setCell ⟨mk, v * 2, none⟩ (.int .i64 ((come : Int) + 1))).setCell ⟨mk, v * 2 + 1, none⟩ (.int .i64 ((come : Int) + 1))).drew Wb.heap.size sb mk (outF gb lb) wv ov fv n (come + 1) (updN num v (come + 1)) (updN low v (come + 1)) ws opn fs) := by
    have q1 := S1.out.mark (v * 2) (.int .i64 ((come + 1 : Nat) : Int)) (S1.out.marks.num v (come + 1) hv)
    have q2 := q1.mark (v * 2 + 1) (.int .i64 ((come + 1 : Nat) : Int)) (q1.marks.low v (come + 1) hv)
    rw [hcast] at q2
    exact q2.later (Below.refl _ _).drew
  have B2 : Hid (Below Wb.heap.size Wb ((w1.setCell ⟨mk, v * 2, none⟩ (.int .i64 ((come : Int) + 1))).setCell ⟨mk, v * 2 + 1, none⟩ (.int .i64 ((come : Int) + 1))).drew) := ((B1.out.setCell hhi.2 _).setCell hhi.2 _).drew
  clear c0 c3 c4 c5 S1 B1 hcast
  go_region
  clear c1 c2 m0 m1 g0 g1
  generalize ((w1.setCell ⟨mk, v * 2, none⟩ (.int .i64 ((come : Int) + 1))).setCell ⟨mk, v * 2 + 1, none⟩ (.int .i64 ((come : Int) + 1))).drew = w2 at *
  -- the open nodes
  obtain ⟨c0, c1, c2, c3, c4, c5⟩ := S2.out.cells
  have S3 : Hid (Sr (w2.alloc (.cells #[.int .i64 (v : Int)] 3)) Wb.heap.size sb mk (outF gb lb) wv ov fv n (come + 1) (updN num v (come + 1)) (updN low v (come + 1)) ws opn fs) := S2.out.later (below_box w2 _)
  have B3 : Hid (Below Wb.heap.size Wb (w2.alloc (.cells #[.int .i64 (v : Int)] 3))) := B2.out.trans ((below_box w2 _).mono B2.out.size)
  have Z3 : Hid (Wb.heap.size ≤ (w2.alloc (.cells #[.int .i64 (v : Int)] 3)).heap.size) := B3.out.size
  have N3 : Hid (∀ j u, ([.int .i64 (v : Int)] : List Value)[j]? = some u → (w2.alloc (.cells #[.int .i64 (v : Int)] 3)).cell? ((⟨w2.heap.size, 0, none⟩ : Addr).add j) = some u) := World.news_of_block (cs := #[.int .i64 (v : Int)]) (t := 3) (fr := (0, 0)) (heap_alloc_new w2 _)
  have X3 : Hid (∀ u ∈ ([.int .i64 (v : Int)] : List Value), u.oneCell' = true) := fun u hu => by
    obtain rfl : u = .int .i64 (v : Int) := by simpa using hu
    rfl
  clear c0 c1 c2 c3 c5 S2 B2
  go_wp2_with (at_builtin; refine wpList_append_lies _ rfl _ _ 28 rfl Wb.heap.size 3 i3 _ 1 8 Tryd.underlying28 HI3.out HZ30.out HZ31.out HZ32.out rfl (by decide) ov opn.length (intsV opn) rfl S3.out.opnR ⟨w2.heap.size, 0, none⟩ 1 1 [.int .i64 (v : Int)] rfl rfl N3.out X3.out (by decide) (by unfold maxLen; omega) (by omega) Z3.out (w2.heap.size + 1) (by simp) ?_; intro g cap w4 hown4 hgrow hat hglt; have G4 := hid (gro_of_grown hgrow); have O4 := hid hown4; have c4' : w4.cell? ⟨sb, 4, none⟩ = some ov := Lib.cell_of_heap (G4.out.at S3.out.box S3.out.apart.2.2.2.1) 4; have f4' : w4.frozen? ⟨sb, 4, none⟩ = false := Lib.frozen_of_heap (G4.out.at S3.out.box S3.out.apart.2.2.2.1) 4; have A4 := hid hat; clear hown4 hgrow hat hglt c4)
  have S5 : Hid (Sr (w4.setCell ⟨sb, 4, none⟩ (.slice (some ⟨g, 0, none⟩) (opn.length + 1) cap)) Wb.heap.size sb mk (outF gb lb) wv (.slice (some ⟨g, 0, none⟩) (opn.length + 1) cap) fv n (come + 1) (updN num v (come + 1)) (updN low v (come + 1)) ws (opn ++ [v]) fs) := S3.out.pushOpen v _ G4.out O4.out (fun g' hg' => by
    injection hg' with hg'
    have hg'' : g = g' := hg'
    subst hg''
    rcases A4.out with h1 | h1
    · exact .inl h1
    · exact .inr (by rw [h1, World.size_alloc]; exact Nat.le_refl _))
  have B5 : Hid (Below Wb.heap.size Wb (w4.setCell ⟨sb, 4, none⟩ (.slice (some ⟨g, 0, none⟩) (opn.length + 1) cap))) := (B3.out.trans (G4.out.below Wb.heap.size (fun k hk => (own_tag S3.out.opnR hk).1) B3.out.size)).setCell hhi.1 _
  clear S3 B3 Z3 N3 X3 G4 O4 A4 c4' f4'
  generalize hov : (Value.slice (some ⟨g, 0, none⟩) (opn.length + 1) cap) = ov5 at *
  clear hov
  generalize w4.setCell ⟨sb, 4, none⟩ ov5 = w5 at *
  obtain ⟨c0, c1, c2, c3, c4, c5⟩ := S5.out.cells
  have f3 := S5.out.fz 3
  clear c1 c2 c4 c5
  unfold outF at c0
  go_region_law (first
    | (refine step_append_lies _ rfl (.tmp 40) (.tmp 49) 72 rfl Wb.heap.size 102 iS _ 2 32 Tryd.underlying72 HIS.out HZS0.out HZS1.out HZS2.out rfl (by decide) wv ws.length (waysC ws) (by simp [Act.eval, Act.put]) S7.out.wayR ⟨w6.heap.size, 0, none⟩ 1 1 [.int .i64 (v : Int), (.slice ra (lst (edge L labels v) n).length rc)] (by simp [Act.eval, Act.put]) rfl N7.out X7.out (by decide) (by unfold maxLen; omega) (by omega) Z7.out (w6.heap.size + 1) (by simp) ?_; intro g8 cap8 w8 hown8 hgrow8 hat8 hglt8; have G8 := hid (gro_of_grown hgrow8); have O8 := hid hown8; have c3'' : w8.cell? ⟨sb, 3, none⟩ = some wv := Lib.cell_of_heap (G8.out.at S7.out.box S7.out.apart.2.1) 3; have f3'' : w8.frozen? ⟨sb, 3, none⟩ = false := Lib.frozen_of_heap (G8.out.at S7.out.box S7.out.apart.2.1) 3; clear hown8 hgrow8 hat8 hglt8)
    | (rw [if_pos (by simp [Region.wanted])]; go_simp; refine (outc_is (HE.out.later B5.out.drew) v hv).mono ?_; rintro e w6 ⟨⟨rv, rfl, i6⟩, b6⟩; obtain ⟨ra, rc, rfl⟩ := i6.form; have I6 := hid i6; have B6 : Hid (Below w5.heap.size w5 w6) := ((Below.refl _ _).drew.trans b6); have c3' : w6.cell? ⟨sb, 3, none⟩ = some wv := (S5.out.later B6.out).cells.2.2.2.1; have f3' : w6.frozen? ⟨sb, 3, none⟩ = false := (S5.out.later B6.out).fz 3; have S7 : Hid (Sr (w6.alloc (.cells #[.int .i64 (v : Int), (.slice ra (lst (edge L labels v) n).length rc)] 102)) Wb.heap.size sb mk (outF gb lb) wv ov5 fv n (come + 1) (updN num v (come + 1)) (updN low v (come + 1)) ws (opn ++ [v]) fs) := ((S5.out.later B6.out).later (below_box w6 _)); have B7 : Hid (Below Wb.heap.size Wb (w6.alloc (.cells #[.int .i64 (v : Int), (.slice ra (lst (edge L labels v) n).length rc)] 102))) := (B5.out.trans ((B6.out.trans ((below_box w6 _).mono B6.out.size)).mono B5.out.size)); have Z7 : Hid (Wb.heap.size ≤ (w6.alloc (.cells #[.int .i64 (v : Int), (.slice ra (lst (edge L labels v) n).length rc)] 102)).heap.size) := B7.out.size; have N7 : Hid (∀ j u, ([.int .i64 (v : Int), (.slice ra (lst (edge L labels v) n).length rc)] : List Value)[j]? = some u → (w6.alloc (.cells #[.int .i64 (v : Int), (.slice ra (lst (edge L labels v) n).length rc)] 102)).cell? ((⟨w6.heap.size, 0, none⟩ : Addr).add j) = some u) := (World.news_of_block (cs := #[.int .i64 (v : Int), (.slice ra (lst (edge L labels v) n).length rc)]) (t := 102) (fr := (0, 0)) (heap_alloc_new w6 _)); have P7 : Hid (Part (OffB Wb.heap.size ov5) (w6.alloc (.cells #[.int .i64 (v : Int), (.slice ra (lst (edge L labels v) n).length rc)] 102)) (.slice ra (lst (edge L labels v) n).length rc) (natI (lst (edge L labels v) n))) := ((I6.out.later (below_box w6 _)).partOff (fun g7 hg7 => ⟨by have h1 := B5.out.size; have h2 : w5.drew.heap.size = w5.heap.size := rfl; omega, fun e => by have h2 : w5.drew.heap.size = w5.heap.size := rfl; obtain ⟨_, c, hc⟩ := own_tag S5.out.opnR e; have := blt hc; omega⟩)); have X7 : Hid (∀ u ∈ ([.int .i64 (v : Int), (.slice ra (lst (edge L labels v) n).length rc)] : List Value), u.oneCell' = true) := (by intro u hu; simp only [List.mem_cons, List.not_mem_nil, or_false] at hu; rcases hu with rfl | rfl <;> rfl); have hl6 : sb < w6.heap.size := blt (S5.out.later B6.out).box; clear i6 b6))
  all_goals (try go_wp2_with fail)
  all_goals
    go_end0
    exact ⟨rfl, ⟨_, _, _, S7.out.pushWay v (lst (edge L labels v) n) _ _ G8.out O8.out P7.out⟩, (B7.out.trans (G8.out.below Wb.heap.size (fun k hk => (own_tag S7.out.wayR hk).1) B7.out.size)).setCell hhi.1 _⟩
end Go.Proofs.YtjgmkigfpjmlaabDoor

/-
  The search for components: lower.
-/
namespace Go.Proofs.YtjgmkigfpjmlaabDoor
set_option linter.unusedVariables false
set_option linter.unusedSimpArgs false
open Go.RowKit

set_option maxHeartbeats 4000000 in
set_option maxRecDepth 100000 in
theorem lower_is {w : World} {H sb mk : Nat} {outf wv ov fv : Value} {n come : Nat} {num low : Nat → Nat} {ws : List Stp} {opn : List Nat} {fs : List (List Nat × Value)} (h : Sr w H sb mk outf wv ov fv n come num low ws opn fs) (u v : Nat) (hu : u < n) (hv : v < n) (hs : H ≤ w.heap.size) :
    Calls Tryd.prog 59 #[.pointer (some ⟨sb, 0, none⟩), .int .i64 u, .int .i64 v] w fun e w' => e = .returned (.tuple #[]) ∧ Sr w' H sb mk outf wv ov fv n come num (updN low u (min (low u) (low v))) ws opn fs ∧ Below H w w' := by
  obtain ⟨c0, c1, c2, c3, c4, c5⟩ := h.cells
  obtain ⟨_, m1, _, f1⟩ := h.marks.cell u hu
  obtain ⟨_, m3, _, f3⟩ := h.marks.cell v hv
  have hui : (u : Int) < n := by omega
  have hu0 : (0 : Int) ≤ u := by omega
  have hvi : (v : Int) < n := by omega
  have hv0 : (0 : Int) ≤ v := by omega
  have SN : Hid (Sr (w.setCell ⟨mk, u * 2 + 1, none⟩ (.int .i64 ((min (low u) (low v) : Nat) : Int))) H sb mk outf wv ov fv n come num (updN low u (min (low u) (low v))) ws opn fs) := h.mark _ _ (h.marks.low u _ hu)
  have BN : Hid (Below H w (w.setCell ⟨mk, u * 2 + 1, none⟩ (.int .i64 ((min (low u) (low v) : Nat) : Int)))) := (Below.refl _ _).setCell h.high.2 _
  clear c0 c2 c3 c4 c5 h
  have hmin : min (low u : Int) (low v : Int) = ((min (low u) (low v) : Nat) : Int) := by omega
  generalize hz : min (low u) (low v) = z at *
  clear hz
  generalize low u = a at *
  generalize low v = b at *
  go_enter Tryd.func59, Tryd.ntmps59
  go_wp2_with fail
  go_region
  all_goals (try go_wp2_with fail)
  all_goals go_end0
  all_goals exact ⟨rfl, SN.out.later (Below.refl _ _).drew, BN.out.drew⟩
end Go.Proofs.YtjgmkigfpjmlaabDoor
