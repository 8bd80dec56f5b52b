/-
  Transactions by their five cells: slices.Clone, what 'right' makes of them, Before.
-/
import Derived.Test.YtbcegdiabnapkaaT5
import Derived.Deep.Slices
namespace Go.Proofs.Ytbcegdiabnapkaa
set_option linter.unusedVariables false
set_option linter.unusedSimpArgs false
open Go.RowKit Go.Lib

/-- A transaction by its cells: its process, state, beginning, end, and the value that holds its operations. -/
abbrev LT := Int × Int × Int × Int × Value
abbrev LT.proc (t : LT) : Int := t.1
abbrev LT.state (t : LT) : Int := t.2.1
abbrev LT.since (t : LT) : Int := t.2.2.1
abbrev LT.till (t : LT) : Int := t.2.2.2.1
abbrev LT.ov (t : LT) : Value := t.2.2.2.2
/-- A slice's value. -/
def IsSl (v : Value) : Prop := ∃ a n c, v = .slice a n c
theorem IsSl.one {v : Value} (h : IsSl v) : v.oneCell' = true := by obtain ⟨a, n, c, rfl⟩ := h; rfl
def encT (t : LT) : List Value := [.int .i64 t.proc, .int .i64 t.state, .int .i64 t.since, .int .i64 t.till, t.ov]
theorem encT_len (t : LT) : (encT t).length = 5 := rfl
/-- n transactions by their cells, in a slice at ao. -/
def Lt (w : World) (ao : Option Addr) (n : Nat) (f : Nat → LT) : Prop := ∀ j, j < n → ∃ b o, ao = some ⟨b, o, none⟩ ∧ b < w.heap.size ∧ IsSl (f j).ov ∧ ∀ i u, (encT (f j))[i]? = some u → w.cell? ⟨b, o + j * 5 + i, none⟩ = some u
theorem Lt.later {w w' : World} {ao : Option Addr} {n : Nat} {f : Nat → LT} (h : Lt w ao n f) (hb : Below w.heap.size w w') : Lt w' ao n f := fun j hj => by
  obtain ⟨b, o, h1, h2, h3, h4⟩ := h j hj
  exact ⟨b, o, h1, Nat.lt_of_lt_of_le h2 hb.size, h3, fun i u hi => (hb.cell (p := ⟨b, o + j * 5 + i, none⟩) h2).trans (h4 i u hi)⟩
theorem Lt.take {w : World} {ao : Option Addr} {n m : Nat} {f : Nat → LT} (h : Lt w ao n f) (hm : m ≤ n) : Lt w ao m f := fun j hj => h j (by omega)
theorem Lt.five {w : World} {ao : Option Addr} {n : Nat} {f : Nat → LT} (h : Lt w ao n f) (j : Nat) (hj : j < n) : ∃ b o, ao = some ⟨b, o, none⟩ ∧ b < w.heap.size ∧ IsSl (f j).ov ∧ w.cell? ⟨b, o + j * 5, none⟩ = some (.int .i64 (f j).proc) ∧ w.cell? ⟨b, o + j * 5 + 1, none⟩ = some (.int .i64 (f j).state) ∧ w.cell? ⟨b, o + j * 5 + 2, none⟩ = some (.int .i64 (f j).since) ∧ w.cell? ⟨b, o + j * 5 + 3, none⟩ = some (.int .i64 (f j).till) ∧ w.cell? ⟨b, o + j * 5 + 4, none⟩ = some (f j).ov := by
  obtain ⟨b, o, h1, h2, h3, h4⟩ := h j hj
  exact ⟨b, o, h1, h2, h3, h4 0 _ rfl, h4 1 _ rfl, h4 2 _ rfl, h4 3 _ rfl, h4 4 _ rfl⟩
/-- What Small hands back, by its cells. -/
theorem TxnsOwn.lt {B : Nat} {w : World} {v : Value} {l : List MTxn} (h : TxnsOwn B w v l) : ∃ ao c f, v = .slice ao l.length c ∧ l.length ≤ c ∧ l.length * 56 ≤ 140737488355328 ∧ Lt w ao l.length f ∧ ∀ j, j < l.length → (f j).proc = (l.getD j default).proc ∧ (f j).state = (l.getD j default).state ∧ (f j).since = (l.getD j default).since ∧ (f j).till = (l.getD j default).till := by
  obtain ⟨ao, c, hv, hl, hc⟩ := h
  by_cases h0 : 0 < l.length
  · obtain ⟨b, D, rfl, T⟩ := hc h0
    obtain ⟨g, hg⟩ := Deep.choose_lt (α := Value) T.row
    refine ⟨some ⟨b, 0, none⟩, c, fun j => ((l.getD j default).proc, (l.getD j default).state, (l.getD j default).since, (l.getD j default).till, g j), hv, hl.2, hl.1, fun j hj => ?_, fun j hj => ⟨rfl, rfl, rfl, rfl⟩⟩
    obtain ⟨h1, ⟨a2, c2, h2, _⟩⟩ := hg j hj
    refine ⟨b, 0, rfl, World.block_lt_of_cell? _ _ (h1 0 _ rfl), ⟨a2, _, c2, h2⟩, fun i u hi => ?_⟩
    rw [Nat.zero_add]
    exact h1 i u hi
  · exact ⟨ao, c, fun _ => default, hv, hl.2, hl.1, fun j hj => by omega, fun j hj => by omega⟩

/-- Transactions in a block of one's own. -/
def OwnT (w : World) (g n : Nat) (f : Nat → LT) : Prop := (∀ o, w.frozen? ⟨g, o, none⟩ = false) ∧ ∀ j, j < n → IsSl (f j).ov ∧ ∀ i u, (encT (f j))[i]? = some u → w.cell? ⟨g, j * 5 + i, none⟩ = some u
theorem OwnT.five {w : World} {g n : Nat} {f : Nat → LT} (h : OwnT w g n f) (j : Nat) (hj : j < n) : w.cell? ⟨g, j * 5, none⟩ = some (.int .i64 (f j).proc) ∧ w.cell? ⟨g, j * 5 + 1, none⟩ = some (.int .i64 (f j).state) ∧ w.cell? ⟨g, j * 5 + 2, none⟩ = some (.int .i64 (f j).since) ∧ w.cell? ⟨g, j * 5 + 3, none⟩ = some (.int .i64 (f j).till) ∧ w.cell? ⟨g, j * 5 + 4, none⟩ = some (f j).ov := by
  obtain ⟨h3, h4⟩ := h.2 j hj
  exact ⟨h4 0 _ rfl, h4 1 _ rfl, h4 2 _ rfl, h4 3 _ rfl, h4 4 _ rfl⟩
theorem OwnT.lt {w : World} {g n : Nat} {f : Nat → LT} (h : OwnT w g n f) : Lt w (some ⟨g, 0, none⟩) n f := fun j hj => by
  obtain ⟨h3, h4⟩ := h.2 j hj
  exact ⟨g, 0, rfl, World.block_lt_of_cell? _ _ (h4 0 _ rfl), h3, fun i u hi => by rw [Nat.zero_add]; exact h4 i u hi⟩
/-- One of the first four cells of one transaction is written. -/
theorem OwnT.set {w w' : World} {g n k c : Nat} {f : Nat → LT} {t : LT} (h : OwnT w g n f) (hk : k < n) (v : Value) (hw : w'.heap = (w.setCell ⟨g, k * 5 + c, none⟩ v).heap) (hov : t.ov = (f k).ov) (hc : c < 5) (ht : ∀ i, i ≠ c → (encT t)[i]? = (encT (f k))[i]?) (hv : (encT t)[c]? = some v) : OwnT w' g n (fun j => if j = k then t else f j) := by
  refine ⟨fun o => by rw [frozen_of_heap hw, World.frozen?_setCell]; exact h.1 o, fun j hj => ?_⟩
  by_cases hjk : j = k
  · subst hjk
    simp only [if_true]
    obtain ⟨h3, h4⟩ := h.2 j hj
    refine ⟨by rw [hov]; exact h3, fun i u hi => ?_⟩
    by_cases hic : i = c
    · subst hic
      rw [hv] at hi
      cases hi
      rw [cell_of_heap hw]
      obtain ⟨u0, hu0⟩ : ∃ u0, (encT (f j))[i]? = some u0 := ⟨_, List.getElem?_eq_getElem (by rw [encT_len]; exact hc)⟩
      exact World.cell?_setCell_same _ _ _ (h4 i u0 hu0)
    · rw [ht i hic] at hi
      rw [cell_of_heap hw, World.cell?_setCell_other w _ _ _ (fun e => hic (by have : j * 5 + c = j * 5 + i := congrArg Addr.off e; omega))]
      exact h4 i u hi
  · simp only [if_neg hjk]
    obtain ⟨h3, h4⟩ := h.2 j hj
    refine ⟨h3, fun i u hi => ?_⟩
    have hi5 : i < 5 := by have := (List.getElem?_eq_some_iff.1 hi).1; rwa [encT_len] at this
    rw [cell_of_heap hw, World.cell?_setCell_other w _ _ _ (fun e => hjk (by have : k * 5 + c = j * 5 + i := congrArg Addr.off e; omega))]
    exact h4 i u hi
theorem OwnT.congr {w : World} {g n : Nat} {f f' : Nat → LT} (h : OwnT w g n f) (he : ∀ j, j < n → f' j = f j) : OwnT w g n f' := ⟨h.1, fun j hj => by rw [he j hj]; exact h.2 j hj⟩

def rowsT (f : Nat → LT) (n : Nat) : List (List Value) := (List.range n).map (fun j => encT (f j))
theorem rowsT_size (f : Nat → LT) (n : Nat) : ∀ r ∈ rowsT f n, r.length = 5 := fun r hr => by
  obtain ⟨j, _, rfl⟩ := List.mem_map.1 hr
  rfl
theorem rowsT_len (f : Nat → LT) (n : Nat) : (rowsT f n).length = n := by simp [rowsT]
theorem rowsT_at (f : Nat → LT) (n j i : Nat) (hj : j < n) (hi : i < 5) : (rowsT f n).flatten[j * 5 + i]? = (encT (f j))[i]? := by
  rw [flatten_get 5 _ j i (rowsT_size f n) (by rw [rowsT_len]; exact hj) hi]
  simp [rowsT, List.getD, hj]
theorem rowsT_get (f : Nat → LT) (n x : Nat) (u : Value) (h : (rowsT f n).flatten[x]? = some u) : x / 5 < n ∧ (encT (f (x / 5)))[x % 5]? = some u := by
  have hx := (List.getElem?_eq_some_iff.1 h).1
  rw [flatten_len 5 _ (rowsT_size f n), rowsT_len] at hx
  have h1 : x / 5 < n := by omega
  refine ⟨h1, ?_⟩
  rw [← rowsT_at f n (x / 5) (x % 5) h1 (by omega), show x / 5 * 5 + x % 5 = x by omega]
  exact h

theorem cloneT_nil (n c : Nat) (w : World) :
    Calls Try.prog 29 #[.slice none n c] w fun e w' => e = .returned (.slice none 0 0) ∧ w' = w := by
  have q22 : ∀ (w : World) (a : Option Addr) (n c n' c' : Nat), (binOp .eql 22 (.slice a n c) (.slice none n' c')).run Try.prog w = .ok (.bool a.isNone) w := fun w a n c n' c' => Lib.run_eql_slice_nil w _ _ a n c n' c' Try.underlying22
  go_enter Try.func29, Try.ntmps29
  go_wp2
  go_ret
  exact ⟨rfl, rfl⟩

set_option maxHeartbeats 2000000 in
set_option maxRecDepth 100000 in
theorem cloneT_some (ad : Addr) (c n : Nat) (f : Nat → LT) (w : World) (hbig : n * 56 ≤ 140737488355328) (hc : Lt w (some ad) n f) :
    Calls Try.prog 29 #[.slice (some ad) n c] w fun e w' => ∃ v', e = .returned v' ∧ w'.ownsRow w.heap.size 26 5 v' n (rowsT f n).flatten ∧ Below w.heap.size w w' := by
  obtain ⟨i0, hi, hz0, hz1, hz2⟩ := info_parts Try.infoTxn
  have q22 : ∀ (w : World) (a : Option Addr) (n c n' c' : Nat), (binOp .eql 22 (.slice a n c) (.slice none n' c')).run Try.prog w = .ok (.bool a.isNone) w := fun w a n c n' c' => Lib.run_eql_slice_nil w _ _ a n c n' c' Try.underlying22
  have u22 : ∀ w, Sem.run Try.prog (underlying 22) w = .ok (TypeDesc.slice 26) w := run_underlying Try.underlying22
  have A := hid hc
  clear hc
  go_enter Try.func29, Try.ntmps29
  go_wp2_with (at_builtin; refine wpList_append_own _ rfl _ _ 22 rfl w.heap.size 26 i0 _ 5 56 Try.underlying22 hi hz0 hz1 hz2 rfl (by decide) _ _ _ rfl (World.ownsRow_made w #[] 0 (Nat.le_refl _) (Nat.zero_le _) rfl) ad n c (rowsT f n).flatten rfl ?qc1 ?qc2 ?qc3 ?qc4 ?qc5 ?qc6 ?_)
  case qc1 => rw [flatten_len 5 _ (rowsT_size f n), rowsT_len]
  case qc2 =>
    intro j u hj
    obtain ⟨h1, h2⟩ := rowsT_get f n j u hj
    refine Lib.cell?_alloc_some _ ?_
    obtain ⟨b, o, e, _, _, h3⟩ := A.out (j / 5) h1
    cases e
    have := h3 (j % 5) u h2
    rw [Addr.add_lit]
    rwa [Nat.add_assoc, show j / 5 * 5 + j % 5 = j by omega] at this
  case qc3 =>
    intro u hu
    obtain ⟨r, hr, hur⟩ := List.mem_flatten.1 hu
    obtain ⟨j, hj, rfl⟩ := List.mem_map.1 hr
    obtain ⟨b, o, e, _, h3, _⟩ := A.out j (by simpa using hj)
    simp only [encT, List.mem_cons, List.not_mem_nil, or_false] at hur
    rcases hur with rfl | rfl | rfl | rfl | rfl
    · rfl
    · rfl
    · rfl
    · rfl
    · exact h3.one
  case qc4 => unfold maxLen; omega
  case qc5 => omega
  case qc6 => simp
  intro v' w1 hown hgrow hnil
  go_wp2
  go_ret
  refine ⟨v', rfl, by simpa using hown, ?_⟩
  exact ((Below.refl _ w).alloc (Nat.le_refl _) _).grown hgrow (by simp) (by intro k hk; simp [Value.ownBlock] at hk; omega)

/-- slices.Clone of transactions: their cells in new memory. -/
theorem cloneT_any (ao : Option Addr) (c n : Nat) (f : Nat → LT) (w : World) (hbig : n * 56 ≤ 140737488355328) (hc : Lt w ao n f) :
    Calls Try.prog 29 #[.slice ao n c] w fun e w' => ∃ ao' c', e = .returned (.slice ao' n c') ∧ n ≤ c' ∧ (0 < n → ∃ g, ao' = some ⟨g, 0, none⟩ ∧ w.heap.size ≤ g ∧ OwnT w' g n f) ∧ Below w.heap.size w w' := by
  cases ao with
  | none =>
    have h0 : n = 0 := by
      by_cases h : 0 < n
      · obtain ⟨b, off, ha, _⟩ := hc 0 h; cases ha
      · omega
    subst h0
    refine (cloneT_nil _ c w).mono fun e w' ⟨he, hw⟩ => ⟨_, _, he, Nat.le_refl _, fun h => by omega, ?_⟩
    rw [hw]; exact Below.refl _ _
  | some ad =>
    refine (cloneT_some ad c n f w hbig hc).mono fun e w' ⟨v', he, hown, hb⟩ => ?_
    rcases hown.2 with ⟨hv, hn⟩ | ⟨g, cap, cur, hv, hg, hh, hcap, hm, hsz, ht⟩
    · exact ⟨none, 0, by rw [he, hv, hn], by omega, fun h => by omega, hb⟩
    · refine ⟨some ⟨g, 0, none⟩, cap, by rw [he, hv], hcap, fun _ => ⟨g, rfl, hg, fun o => by unfold World.frozen?; simp only [hh]; simp, fun j hj => ?_⟩, hb⟩
      obtain ⟨b, o, e, _, h3, _⟩ := hc j hj
      refine ⟨h3, fun i u hi => ?_⟩
      have hi5 : i < 5 := by have := (List.getElem?_eq_some_iff.1 hi).1; rwa [encT_len] at this
      have := hown.cells (g := g) (by rw [hv]; rfl) (j * 5 + i) u (by rw [rowsT_at f n j i hj hi5]; exact hi)
      rw [Addr.add_lit] at this
      simpa using this
end Go.Proofs.Ytbcegdiabnapkaa
