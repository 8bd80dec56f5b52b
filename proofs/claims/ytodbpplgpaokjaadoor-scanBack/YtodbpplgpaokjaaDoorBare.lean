/-
  Walks of slices.Clone at lists of tokens and of the law's bare: a list's copy, in new memory, and with all places put to nought.
-/
import Derived.Test.YtodbpplgpaokjaaDoorS4
import Derived.Test.YtodbpplgpaokjaaDoorBlank
import Derived.Laws.OwnMore
import Derived.Lib.SliceRun
import Derived.Lib.Walk
namespace Go.Proofs.YtodbpplgpaokjaaDoor
set_option linter.unusedVariables false
set_option linter.unusedSimpArgs false
open Go.RowKit Go.Lib

/-- A token's cells. -/
def tcells (t : MTok) : List Value := [.int .i64 t.1, .int .i64 t.2.1, .string t.2.2.1, .int .i64 t.2.2.2]
/-- A list's cells. -/
def flat (l : List MTok) : List Value := (l.map tcells).flatten
theorem flat_cons (t : MTok) (l : List MTok) : flat (t :: l) = tcells t ++ flat l := by simp [flat]
theorem flat_len (l : List MTok) : (flat l).length = l.length * 4 := by
  unfold flat
  rw [flatten_len 4 _ (by intro r hr; obtain ⟨t, _, rfl⟩ := List.mem_map.1 hr; rfl)]
  simp
theorem flat_get (l : List MTok) (j i : Nat) (hj : j < l.length) (hi : i < 4) : (flat l)[j * 4 + i]? = (tcells (l.getD j default))[i]? := by
  unfold flat
  rw [flatten_get 4 _ j i (by intro r hr; obtain ⟨t, _, rfl⟩ := List.mem_map.1 hr; rfl) (by simpa using hj) hi]
  simp [List.getD, List.getElem?_eq_getElem hj]

/-- The first k tokens without places. -/
def brl : Nat → List MTok → List MTok
  | 0, l => l
  | _ + 1, [] => []
  | k + 1, t :: l => bareT t :: brl k l
theorem brl_zero (l : List MTok) : brl 0 l = l := by cases l <;> rfl
theorem brl_len : ∀ (k : Nat) (l : List MTok), (brl k l).length = l.length
  | 0, l => by rw [brl_zero]
  | _ + 1, [] => rfl
  | k + 1, t :: l => by simp [brl, brl_len k l]
theorem brl_all : ∀ (l : List MTok), brl l.length l = l.map bareT
  | [] => rfl
  | t :: l => by simp [brl, brl_all l]
theorem brl_at : ∀ (k : Nat) (l : List MTok), k < l.length → (flat (brl k l))[k * 4 + 1]? = some (.int .i64 (l.getD k default).2.1)
  | k, [], h => by simp at h
  | 0, t :: l, h => by simp [brl, flat_cons, tcells]
  | k + 1, t :: l, h => by
    have := brl_at k l (by simpa using h)
    rw [show brl (k + 1) (t :: l) = bareT t :: brl k l from rfl, flat_cons, show (k + 1) * 4 + 1 = (k * 4 + 1) + 4 by omega]
    simpa [tcells] using this
theorem brl_set : ∀ (k : Nat) (l : List MTok), k < l.length → (flat (brl k l)).set (k * 4 + 1) (.int .i64 0) = flat (brl (k + 1) l)
  | k, [], h => by simp at h
  | 0, t :: l, h => by simp [brl, brl_zero, flat_cons, tcells, bareT]
  | k + 1, t :: l, h => by
    have := brl_set k l (by simpa using h)
    rw [show brl (k + 1) (t :: l) = bareT t :: brl k l from rfl, show brl (k + 1 + 1) (t :: l) = bareT t :: brl (k + 1) l from rfl, flat_cons, flat_cons, ← this, show (k + 1) * 4 + 1 = (k * 4 + 1) + 4 by omega]
    simp [tcells]

/-- A row of one's own is a list in memory. -/
theorem own_toks {B : Nat} {w : World} {v : Value} {l : List MTok} (h : w.ownsRow B 33 4 v l.length (flat l)) (hb : l.length * 40 ≤ 140737488355328) : ToksIn (fun b => B ≤ b) w v l := by
  rcases h.2 with ⟨hv, hn⟩ | ⟨g, cap, cur, hv, hg, _⟩
  · exact ⟨none, 0, by rw [hv, hn], hb, fun h => by omega⟩
  · refine ⟨some ⟨g, 0, none⟩, cap, hv, hb, fun _ => ⟨g, 0, rfl, hg, fun j hj => ⟨tcells (l.getD j default), rfl, rfl, fun i u hi => ?_⟩⟩⟩
    have hil : i < 4 := (List.getElem?_eq_some_iff.1 hi).1
    have := h.cells (g := g) (by rw [hv]; rfl) (j * 4 + i) u (by rw [flat_get l j i hj hil]; exact hi)
    rw [Addr.add_lit] at this
    simpa [Nat.add_assoc] using this

theorem cloneToks_nil (n c : Nat) (w : World) :
    Calls Tryd.prog 13 #[.slice none n c] w fun e w' => e = .returned (.slice none 0 0) ∧ w' = w := by
  have q22 : ∀ (w : World) (a : Option Addr) (n c n' c' : Nat), (binOp .eql 22 (.slice a n c) (.slice none n' c')).run Tryd.prog w = .ok (.bool a.isNone) w := fun w a n c n' c' => Lib.run_eql_slice_nil w _ _ a n c n' c' Tryd.underlying22
  go_enter Tryd.func13, Tryd.ntmps13
  go_wp2
  go_ret
  exact ⟨rfl, rfl⟩

set_option maxHeartbeats 2000000 in
set_option maxRecDepth 100000 in
theorem cloneToks_some (ad : Addr) (c : Nat) (l : List MTok) (w : World) (hbig : l.length * 40 ≤ 140737488355328) (hc : ∀ j u, (flat l)[j]? = some u → w.cell? (ad.add j) = some u) :
    Calls Tryd.prog 13 #[.slice (some ad) l.length c] w fun e w' => ∃ v', e = .returned v' ∧ w'.ownsRow w.heap.size 33 4 v' l.length (flat l) ∧ Below w.heap.size w w' := by
  obtain ⟨i0, hi, hz0, hz1, hz2⟩ := info_parts Tryd.infoTok
  have q22 : ∀ (w : World) (a : Option Addr) (n c n' c' : Nat), (binOp .eql 22 (.slice a n c) (.slice none n' c')).run Tryd.prog w = .ok (.bool a.isNone) w := fun w a n c n' c' => Lib.run_eql_slice_nil w _ _ a n c n' c' Tryd.underlying22
  have u22 : ∀ w, Sem.run Tryd.prog (underlying 22) w = .ok (TypeDesc.slice 33) w := run_underlying Tryd.underlying22
  have A := hid hc
  clear hc
  go_enter Tryd.func13, Tryd.ntmps13
  go_wp2_with (at_builtin; refine wpList_append_own _ rfl _ _ 22 rfl w.heap.size 33 i0 (.agg #[.int .i64 0, .int .i64 0, .string ByteArray.empty, .int .i64 0]) 4 40 Tryd.underlying22 hi hz0 hz1 hz2 rfl (by decide) _ _ _ rfl (World.ownsRow_made w #[] 0 (Nat.le_refl _) (Nat.zero_le _) rfl) ad l.length c (flat l) rfl ?qc1 ?qc2 ?qc3 ?qc4 ?qc5 ?qc6 ?_)
  case qc1 => exact flat_len l
  case qc2 => intro j u hj; exact Lib.cell?_alloc_some _ (A.out j u hj)
  case qc3 =>
    intro u hu
    unfold flat at hu
    obtain ⟨r, hr, hu⟩ := List.mem_flatten.1 hu
    obtain ⟨t, _, rfl⟩ := List.mem_map.1 hr
    simp only [tcells, List.mem_cons, List.not_mem_nil, or_false] at hu
    rcases hu with rfl | rfl | rfl | rfl <;> rfl
  case qc4 => unfold maxLen; omega
  case qc5 => omega
  case qc6 => simp
  intro v' w1 hown hgrow hnil
  go_wp2
  go_ret
  refine ⟨v', rfl, by simpa using hown, ?_⟩
  exact ((Below.refl _ w).alloc (Nat.le_refl _) _).grown hgrow (by simp) (by intro k hk; simp [Value.ownBlock] at hk; omega)

/-- slices.Clone hands the same list back, in new memory. -/
theorem cloneToks_any {S : Nat → Prop} (v : Value) (l : List MTok) (w : World) (h : ToksIn S w v l) :
    Calls Tryd.prog 13 #[v] w fun e w' => ∃ v', e = .returned v' ∧ w'.ownsRow w.heap.size 33 4 v' l.length (flat l) ∧ Below w.heap.size w w' := by
  obtain ⟨ao, c, rfl, hl, hc⟩ := h
  cases ao with
  | none =>
    have h0 : l.length = 0 := by
      by_cases h : 0 < l.length
      · obtain ⟨b, off, ha, _⟩ := hc h; cases ha
      · omega
    have hn : l = [] := List.length_eq_zero_iff.1 h0
    subst hn
    refine (cloneToks_nil _ c w).mono fun e w' ⟨he, hw⟩ => ⟨_, he, World.ownsRow_nil _ _ _ _, ?_⟩
    rw [hw]; exact Below.refl _ _
  | some ad =>
    refine cloneToks_some ad c l w hl (fun j u hj => ?_)
    have hjl : j < l.length * 4 := by rw [← flat_len l]; exact (List.getElem?_eq_some_iff.1 hj).1
    obtain ⟨b, off, ha, _, hcc⟩ := hc (by omega)
    cases ha
    obtain ⟨cs, _, hr, hu⟩ := hcc (j / 4) (by omega)
    unfold TokRow at hr
    subst hr
    have e : j = j / 4 * 4 + j % 4 := by omega
    rw [e, flat_get l (j / 4) (j % 4) (by omega) (by omega)] at hj
    have := hu (j % 4) u hj
    rw [Addr.add_lit]
    rw [show off + j / 4 * 4 + j % 4 = off + j by omega] at this
    exact this
end Go.Proofs.YtodbpplgpaokjaaDoor
