/-
  slices.Clone of rows; ops.Copy.
  DERIVED: THE SHELF's CONTRACTS AT THIS DUMP, IN PLAIN WORDS (tools/lay-plain.mjs out of 'YtnfbcmnlloipiaaShelf.lean', which tools/lay-shelf.mjs wrote): THE SAME DECLARATIONS UNDER THE SAME NAMES: 'import', 'namespace', 'open', 'def', 'theorem' AND NOTHING ELSE: no command of the shelf's: FOR A HAND-IN. Each laying: the table of numbers ('.._ren') and one theorem, a field a fact of the dump's own or the kernel's comparison; each contract: ONE APPLICATION.
  The library's contracts on slices.Sorted(maps.Keys(m)), at this program: each is one application of the library's theorems.
  The walk of New.
-/
import Derived.Test.YtnfbcmnlloipiaaV6
import Derived.Shelf.SlGeneric
import Derived.Shelf.SlIter.Nil
import Derived.Shelf.SortM.Plain
import Derived.Shelf.SortM.SortNone
import Derived.Ground.GgzProg
import Derived.Ground.SlgmProg
import Derived.Test.YtnfbcmnlloipiaaProg
import Derived.Lib.SmallJoins
namespace Go.Proofs.Ytnfbcmnlloipiaa
set_option linter.unusedVariables false
set_option linter.unusedSimpArgs false
open Go.RowKit Go.Lib Go.Maps
open Tx (MTxn info_parts flatten_len flatten_get RowsIn.cells RowCells TxnRow TxnsIn setCell_self cloneInts_any cloneInts_soft Soft OpsOwn)

/-- The rows of a slice, one by one. -/
theorem rows_pick {α : Type} [Inhabited α] {k : Nat} {R : List Value → α → Prop} {w : World} {ao : Option Addr} {l : List α} (h : RowCells k R w ao l l.length) :
    ∃ rows : List (List Value), rows.length = l.length ∧ (∀ r ∈ rows, r.length = k) ∧ ∀ j, j < l.length → R (rows.getD j []) (l.getD j default) ∧ ∃ b o, ao = some ⟨b, o, none⟩ ∧ b < w.heap.size ∧ ∀ i u, (rows.getD j [])[i]? = some u → w.cell? ⟨b, o + j * k + i, none⟩ = some u := by
  have ex : ∀ j, ∃ cs : List Value, j < l.length → cs.length = k ∧ R cs (l.getD j default) ∧ ∃ b o, ao = some ⟨b, o, none⟩ ∧ b < w.heap.size ∧ ∀ i u, cs[i]? = some u → w.cell? ⟨b, o + j * k + i, none⟩ = some u := fun j => by
    by_cases hj : j < l.length
    · obtain ⟨b, o, cs, h1, h2, h3, h4, h5⟩ := h j hj
      exact ⟨cs, fun _ => ⟨h3, h4, b, o, h1, h2, h5⟩⟩
    · exact ⟨[], fun c => absurd c hj⟩
  obtain ⟨f, hf⟩ := Classical.skolem.1 ex
  have e : ∀ j, j < l.length → ((List.range l.length).map f).getD j [] = f j := fun j hj => by simp [List.getD, hj]
  refine ⟨(List.range l.length).map f, by simp, fun r hr => ?_, fun j hj => ?_⟩
  · obtain ⟨j, hj, rfl⟩ := List.mem_map.1 hr
    exact (hf j (by simpa using hj)).1
  · rw [e j hj]
    exact (hf j hj).2
/-- Rows in a block of their own. -/
def Rows1 {α : Type} [Inhabited α] (k e : Nat) (R : List Value → α → Prop) (B : Nat) (w : World) (v : Value) (l : List α) : Prop :=
  ∃ rows : List (List Value), rows.length = l.length ∧ (∀ r ∈ rows, r.length = k) ∧ (∀ j, j < l.length → R (rows.getD j []) (l.getD j default)) ∧ w.ownsRow B e k v l.length rows.flatten
theorem Rows1.cell {α : Type} [Inhabited α] {k e : Nat} {R : List Value → α → Prop} {B : Nat} {w : World} {v : Value} {l : List α} (h : Rows1 k e R B w v l) (h0 : 0 < l.length) :
    ∃ g c, v = .slice (some ⟨g, 0, none⟩) l.length c ∧ l.length ≤ c ∧ B ≤ g ∧ g < w.heap.size ∧ (∃ cs, w.heap[g]? = some (.cells cs e (0, 0))) ∧ ∀ j, j < l.length → ∃ cs : List Value, cs.length = k ∧ R cs (l.getD j default) ∧ ∀ i u, cs[i]? = some u → w.cell? ⟨g, j * k + i, none⟩ = some u := by
  obtain ⟨rows, h1, h2, h3, h4⟩ := h
  have h4' := h4
  rcases h4.2 with ⟨hv, hn⟩ | ⟨g, cap, cur, hv, hB, hh, hc, _⟩
  · omega
  · subst hv
    refine ⟨g, cap, rfl, hc, hB, blt hh, ⟨_, hh⟩, fun j hj => ⟨rows.getD j [], ?_, h3 j hj, fun i u hi => ?_⟩⟩
    · exact h2 _ (by simp [List.getD, List.getElem?_eq_getElem (show j < rows.length by omega)])
    · have hil : i < k := by
        rw [← h2 _ (show rows.getD j [] ∈ rows by simp [List.getD, List.getElem?_eq_getElem (show j < rows.length by omega)])]
        exact (List.getElem?_eq_some_iff.1 hi).1
      have := h4'.cells (g := g) rfl (j * k + i) u (by rw [flatten_get k rows j i h2 (by omega) hil]; exact hi)
      rw [Addr.add_lit] at this
      simpa using this
theorem Try.infoO : (Try.prog.info? 49).map (fun i => (i.zero, i.size, i.bytes)) = some (some (.agg #[.int .i64 0, .string ByteArray.empty, .int .i64 0, .slice none 0 0, .bool false, .bool false]), 6, 64) := by kernel_rfl
theorem cloneO_nil (n c : Nat) (w : World) :
    Calls Try.prog 55 #[.slice none n c] w fun e w' => e = .returned (.slice none 0 0) ∧ w' = w := by
  have q22 : ∀ (w : World) (a : Option Addr) (n c n' c' : Nat), (binOp .eql 45 (.slice a n c) (.slice none n' c')).run Try.prog w = .ok (.bool a.isNone) w := fun w a n c n' c' => Lib.run_eql_slice_nil w _ _ a n c n' c' Try.underlying45
  go_enter Try.func55, Try.ntmps55
  go_wp2
  go_ret
  exact ⟨rfl, rfl⟩
set_option maxHeartbeats 2000000 in
set_option maxRecDepth 100000 in
theorem cloneO_some (ad : Addr) (n c : Nat) (xs : List Value) (w : World) (hx : xs.length = n * 6) (hbig : n * 64 ≤ 140737488355328) (hone : ∀ u ∈ xs, u.oneCell' = true) (hc : ∀ j u, xs[j]? = some u → w.cell? (ad.add j) = some u) :
    Calls Try.prog 55 #[.slice (some ad) n c] w fun e w' => ∃ v', e = .returned v' ∧ w'.ownsRow w.heap.size 49 6 v' n xs ∧ Below w.heap.size w w' := by
  obtain ⟨i0, hi, hz0, hz1, hz2⟩ := info_parts Try.infoO
  have q22 : ∀ (w : World) (a : Option Addr) (n c n' c' : Nat), (binOp .eql 45 (.slice a n c) (.slice none n' c')).run Try.prog w = .ok (.bool a.isNone) w := fun w a n c n' c' => Lib.run_eql_slice_nil w _ _ a n c n' c' Try.underlying45
  have A := hid hc
  have O := hid hone
  clear hc hone
  go_enter Try.func55, Try.ntmps55
  go_wp2_with (at_builtin; refine wpList_append_own _ rfl _ _ 45 rfl w.heap.size 49 i0 _ 6 64 Try.underlying45 hi hz0 hz1 hz2 rfl (by decide) _ _ _ rfl (World.ownsRow_made w #[] 0 (Nat.le_refl _) (Nat.zero_le _) rfl) ad n c xs rfl ?qc1 ?qc2 ?qc3 ?qc4 ?qc5 ?qc6 ?_)
  case qc1 => exact hx
  case qc2 => exact fun j u hj => Lib.cell?_alloc_some _ (A.out j u hj)
  case qc3 => exact O.out
  case qc4 => unfold maxLen; omega
  case qc5 => omega
  case qc6 => simp
  intro v' w1 hown hgrow hnil
  go_wp2
  go_ret
  refine ⟨v', rfl, by simpa using hown, ?_⟩
  exact ((Below.refl _ w).alloc (Nat.le_refl _) _).grown hgrow (by simp) (by intro k hk; simp [Value.ownBlock] at hk; omega)
/-- slices.Clone hands the same rows back, in a block of their own. -/
theorem cloneO_any {α : Type} [Inhabited α] {R : List Value → α → Prop} {S : Nat → Prop} (v : Value) (l : List α) (w : World) (h : RowsIn 6 64 R S w v l) (hone : ∀ cs x, R cs x → ∀ u ∈ cs, u.oneCell' = true) :
    Calls Try.prog 55 #[v] w fun e w' => ∃ v', e = .returned v' ∧ Rows1 6 49 R w.heap.size w' v' l ∧ Below w.heap.size w w' := by
  obtain ⟨ao, c, rfl, hl, hc⟩ := RowsIn.cells h (by omega)
  obtain ⟨rows, r1, r2, r3⟩ := rows_pick hc
  cases ao with
  | none =>
    have h0 : l.length = 0 := by
      by_cases h : 0 < l.length
      · obtain ⟨_, b, o, ha, _⟩ := r3 0 h; cases ha
      · omega
    refine (cloneO_nil _ c w).mono fun e w' ⟨he, hw⟩ => ⟨_, he, ⟨rows, r1, r2, fun j hj => (r3 j hj).1, ?_⟩, by rw [hw]; exact Below.refl _ _⟩
    have e0 : rows = [] := List.length_eq_zero_iff.1 (by omega)
    rw [e0, h0]
    exact World.ownsRow_nil _ _ _ _
  | some ad =>
    refine (cloneO_some ad l.length c rows.flatten w (by rw [flatten_len 6 rows r2, r1]) hl.1 (fun u hu => ?_) (fun j u hj => ?_)).mono fun e w' ⟨v', he, hown, hb⟩ => ⟨v', he, ⟨rows, r1, r2, fun j hj => (r3 j hj).1, hown⟩, hb⟩
    · obtain ⟨r, hr, hu2⟩ := List.mem_flatten.1 hu
      obtain ⟨j, hj, e⟩ := List.mem_iff_getElem.1 hr
      have e2 : rows.getD j [] = r := by simp [List.getD, List.getElem?_eq_getElem hj, e]
      exact hone _ _ (by have := (r3 j (by omega)).1; rw [e2] at this; exact this) u hu2
    · have hjl : j < rows.flatten.length := (List.getElem?_eq_some_iff.1 hj).1
      rw [flatten_len 6 rows r2, r1] at hjl
      have hd : j / 6 < l.length := by omega
      have hm : j % 6 < 6 := Nat.mod_lt _ (by decide)
      have ej : j / 6 * 6 + j % 6 = j := by omega
      obtain ⟨_, b, o, ha, _, hcell⟩ := r3 (j / 6) hd
      rw [← ej, flatten_get 6 rows _ _ r2 (by omega) hm] at hj
      cases ha
      have := hcell (j % 6) u hj
      rw [Addr.add_lit]
      rw [← this]
      congr 2
      omega

theorem Try.infoT : (Try.prog.info? 47).map (fun i => (i.zero, i.size, i.bytes)) = some (some (.agg #[.int .i64 0, .int .i64 0, .int .i64 0, .int .i64 0, .slice none 0 0]), 5, 56) := by kernel_rfl
theorem cloneT_nil (n c : Nat) (w : World) :
    Calls Try.prog 26 #[.slice none n c] w fun e w' => e = .returned (.slice none 0 0) ∧ w' = w := by
  have q22 : ∀ (w : World) (a : Option Addr) (n c n' c' : Nat), (binOp .eql 22 (.slice a n c) (.slice none n' c')).run Try.prog w = .ok (.bool a.isNone) w := fun w a n c n' c' => Lib.run_eql_slice_nil w _ _ a n c n' c' Try.underlying22
  go_enter Try.func26, Try.ntmps26
  go_wp2
  go_ret
  exact ⟨rfl, rfl⟩
set_option maxHeartbeats 2000000 in
set_option maxRecDepth 100000 in
theorem cloneT_some (ad : Addr) (n c : Nat) (xs : List Value) (w : World) (hx : xs.length = n * 5) (hbig : n * 56 ≤ 140737488355328) (hone : ∀ u ∈ xs, u.oneCell' = true) (hc : ∀ j u, xs[j]? = some u → w.cell? (ad.add j) = some u) :
    Calls Try.prog 26 #[.slice (some ad) n c] w fun e w' => ∃ v', e = .returned v' ∧ w'.ownsRow w.heap.size 47 5 v' n xs ∧ Below w.heap.size w w' := by
  obtain ⟨i0, hi, hz0, hz1, hz2⟩ := info_parts Try.infoT
  have q22 : ∀ (w : World) (a : Option Addr) (n c n' c' : Nat), (binOp .eql 22 (.slice a n c) (.slice none n' c')).run Try.prog w = .ok (.bool a.isNone) w := fun w a n c n' c' => Lib.run_eql_slice_nil w _ _ a n c n' c' Try.underlying22
  have A := hid hc
  have O := hid hone
  clear hc hone
  go_enter Try.func26, Try.ntmps26
  go_wp2_with (at_builtin; refine wpList_append_own _ rfl _ _ 22 rfl w.heap.size 47 i0 _ 5 56 Try.underlying22 hi hz0 hz1 hz2 rfl (by decide) _ _ _ rfl (World.ownsRow_made w #[] 0 (Nat.le_refl _) (Nat.zero_le _) rfl) ad n c xs rfl ?qc1 ?qc2 ?qc3 ?qc4 ?qc5 ?qc6 ?_)
  case qc1 => exact hx
  case qc2 => exact fun j u hj => Lib.cell?_alloc_some _ (A.out j u hj)
  case qc3 => exact O.out
  case qc4 => unfold maxLen; omega
  case qc5 => omega
  case qc6 => simp
  intro v' w1 hown hgrow hnil
  go_wp2
  go_ret
  refine ⟨v', rfl, by simpa using hown, ?_⟩
  exact ((Below.refl _ w).alloc (Nat.le_refl _) _).grown hgrow (by simp) (by intro k hk; simp [Value.ownBlock] at hk; omega)
/-- slices.Clone hands the same rows back, in a block of their own. -/
theorem cloneT_any {α : Type} [Inhabited α] {R : List Value → α → Prop} {S : Nat → Prop} (v : Value) (l : List α) (w : World) (h : RowsIn 5 56 R S w v l) (hone : ∀ cs x, R cs x → ∀ u ∈ cs, u.oneCell' = true) :
    Calls Try.prog 26 #[v] w fun e w' => ∃ v', e = .returned v' ∧ Rows1 5 47 R w.heap.size w' v' l ∧ Below w.heap.size w w' := by
  obtain ⟨ao, c, rfl, hl, hc⟩ := RowsIn.cells h (by omega)
  obtain ⟨rows, r1, r2, r3⟩ := rows_pick hc
  cases ao with
  | none =>
    have h0 : l.length = 0 := by
      by_cases h : 0 < l.length
      · obtain ⟨_, b, o, ha, _⟩ := r3 0 h; cases ha
      · omega
    refine (cloneT_nil _ c w).mono fun e w' ⟨he, hw⟩ => ⟨_, he, ⟨rows, r1, r2, fun j hj => (r3 j hj).1, ?_⟩, by rw [hw]; exact Below.refl _ _⟩
    have e0 : rows = [] := List.length_eq_zero_iff.1 (by omega)
    rw [e0, h0]
    exact World.ownsRow_nil _ _ _ _
  | some ad =>
    refine (cloneT_some ad l.length c rows.flatten w (by rw [flatten_len 5 rows r2, r1]) hl.1 (fun u hu => ?_) (fun j u hj => ?_)).mono fun e w' ⟨v', he, hown, hb⟩ => ⟨v', he, ⟨rows, r1, r2, fun j hj => (r3 j hj).1, hown⟩, hb⟩
    · obtain ⟨r, hr, hu2⟩ := List.mem_flatten.1 hu
      obtain ⟨j, hj, e⟩ := List.mem_iff_getElem.1 hr
      have e2 : rows.getD j [] = r := by simp [List.getD, List.getElem?_eq_getElem hj, e]
      exact hone _ _ (by have := (r3 j (by omega)).1; rw [e2] at this; exact this) u hu2
    · have hjl : j < rows.flatten.length := (List.getElem?_eq_some_iff.1 hj).1
      rw [flatten_len 5 rows r2, r1] at hjl
      have hd : j / 5 < l.length := by omega
      have hm : j % 5 < 5 := Nat.mod_lt _ (by decide)
      have ej : j / 5 * 5 + j % 5 = j := by omega
      obtain ⟨_, b, o, ha, _, hcell⟩ := r3 (j / 5) hd
      rw [← ej, flatten_get 5 rows _ _ r2 (by omega) hm] at hj
      cases ha
      have := hcell (j % 5) u hj
      rw [Addr.add_lit]
      rw [← this]
      congr 2
      omega

theorem Try.infoW : (Try.prog.info? 54).map (fun i => (i.zero, i.size, i.bytes)) = some (some (.agg #[.int .i64 0, .int .i64 0]), 2, 16) := by kernel_rfl
theorem cloneW_nil (n c : Nat) (w : World) :
    Calls Try.prog 51 #[.slice none n c] w fun e w' => e = .returned (.slice none 0 0) ∧ w' = w := by
  have q22 : ∀ (w : World) (a : Option Addr) (n c n' c' : Nat), (binOp .eql 51 (.slice a n c) (.slice none n' c')).run Try.prog w = .ok (.bool a.isNone) w := fun w a n c n' c' => Lib.run_eql_slice_nil w _ _ a n c n' c' Try.underlying51
  go_enter Try.func51, Try.ntmps51
  go_wp2
  go_ret
  exact ⟨rfl, rfl⟩
set_option maxHeartbeats 2000000 in
set_option maxRecDepth 100000 in
theorem cloneW_some (ad : Addr) (n c : Nat) (xs : List Value) (w : World) (hx : xs.length = n * 2) (hbig : n * 16 ≤ 140737488355328) (hone : ∀ u ∈ xs, u.oneCell' = true) (hc : ∀ j u, xs[j]? = some u → w.cell? (ad.add j) = some u) :
    Calls Try.prog 51 #[.slice (some ad) n c] w fun e w' => ∃ v', e = .returned v' ∧ w'.ownsRow w.heap.size 54 2 v' n xs ∧ Below w.heap.size w w' := by
  obtain ⟨i0, hi, hz0, hz1, hz2⟩ := info_parts Try.infoW
  have q22 : ∀ (w : World) (a : Option Addr) (n c n' c' : Nat), (binOp .eql 51 (.slice a n c) (.slice none n' c')).run Try.prog w = .ok (.bool a.isNone) w := fun w a n c n' c' => Lib.run_eql_slice_nil w _ _ a n c n' c' Try.underlying51
  have A := hid hc
  have O := hid hone
  clear hc hone
  go_enter Try.func51, Try.ntmps51
  go_wp2_with (at_builtin; refine wpList_append_own _ rfl _ _ 51 rfl w.heap.size 54 i0 _ 2 16 Try.underlying51 hi hz0 hz1 hz2 rfl (by decide) _ _ _ rfl (World.ownsRow_made w #[] 0 (Nat.le_refl _) (Nat.zero_le _) rfl) ad n c xs rfl ?qc1 ?qc2 ?qc3 ?qc4 ?qc5 ?qc6 ?_)
  case qc1 => exact hx
  case qc2 => exact fun j u hj => Lib.cell?_alloc_some _ (A.out j u hj)
  case qc3 => exact O.out
  case qc4 => unfold maxLen; omega
  case qc5 => omega
  case qc6 => simp
  intro v' w1 hown hgrow hnil
  go_wp2
  go_ret
  refine ⟨v', rfl, by simpa using hown, ?_⟩
  exact ((Below.refl _ w).alloc (Nat.le_refl _) _).grown hgrow (by simp) (by intro k hk; simp [Value.ownBlock] at hk; omega)
/-- slices.Clone hands the same rows back, in a block of their own. -/
theorem cloneW_any {α : Type} [Inhabited α] {R : List Value → α → Prop} {S : Nat → Prop} (v : Value) (l : List α) (w : World) (h : RowsIn 2 16 R S w v l) (hone : ∀ cs x, R cs x → ∀ u ∈ cs, u.oneCell' = true) :
    Calls Try.prog 51 #[v] w fun e w' => ∃ v', e = .returned v' ∧ Rows1 2 54 R w.heap.size w' v' l ∧ Below w.heap.size w w' := by
  obtain ⟨ao, c, rfl, hl, hc⟩ := RowsIn.cells h (by omega)
  obtain ⟨rows, r1, r2, r3⟩ := rows_pick hc
  cases ao with
  | none =>
    have h0 : l.length = 0 := by
      by_cases h : 0 < l.length
      · obtain ⟨_, b, o, ha, _⟩ := r3 0 h; cases ha
      · omega
    refine (cloneW_nil _ c w).mono fun e w' ⟨he, hw⟩ => ⟨_, he, ⟨rows, r1, r2, fun j hj => (r3 j hj).1, ?_⟩, by rw [hw]; exact Below.refl _ _⟩
    have e0 : rows = [] := List.length_eq_zero_iff.1 (by omega)
    rw [e0, h0]
    exact World.ownsRow_nil _ _ _ _
  | some ad =>
    refine (cloneW_some ad l.length c rows.flatten w (by rw [flatten_len 2 rows r2, r1]) hl.1 (fun u hu => ?_) (fun j u hj => ?_)).mono fun e w' ⟨v', he, hown, hb⟩ => ⟨v', he, ⟨rows, r1, r2, fun j hj => (r3 j hj).1, hown⟩, hb⟩
    · obtain ⟨r, hr, hu2⟩ := List.mem_flatten.1 hu
      obtain ⟨j, hj, e⟩ := List.mem_iff_getElem.1 hr
      have e2 : rows.getD j [] = r := by simp [List.getD, List.getElem?_eq_getElem hj, e]
      exact hone _ _ (by have := (r3 j (by omega)).1; rw [e2] at this; exact this) u hu2
    · have hjl : j < rows.flatten.length := (List.getElem?_eq_some_iff.1 hj).1
      rw [flatten_len 2 rows r2, r1] at hjl
      have hd : j / 2 < l.length := by omega
      have hm : j % 2 < 2 := Nat.mod_lt _ (by decide)
      have ej : j / 2 * 2 + j % 2 = j := by omega
      obtain ⟨_, b, o, ha, _, hcell⟩ := r3 (j / 2) hd
      rw [← ej, flatten_get 2 rows _ _ r2 (by omega) hm] at hj
      cases ha
      have := hcell (j % 2) u hj
      rw [Addr.add_lit]
      rw [← this]
      congr 2
      omega
/-- strings.Clone: the same text. -/
theorem sclone_is (s : ByteArray) (w : World) (hs : s.size ≤ 281474976710656) : Calls Try.prog 56 #[.string s] w fun e w' => e = .returned (.string s) ∧ Below w.heap.size w w' := by
  go_enter Try.func56, Try.ntmps56
  go_wp2_with (go_at_call 79; refine (Try.stringslite_Clone _ _ hs).mono ?_; rintro e w' ⟨rfl, hb⟩)
  go_ret
  exact ⟨rfl, hb⟩
/-- The operations of which the first k have lists of their own. -/
def CpI (S : Nat → Prop) (B g : Nat) (w : World) (l : List MOp) (k : Nat) : Prop :=
  ∀ j, j < l.length → ∃ lv, (∀ i u, ([.int .i64 (l.getD j default).kind, .string (l.getD j default).key, .int .i64 (l.getD j default).value, lv, .bool (l.getD j default).has, .bool (l.getD j default).nl] : List Value)[i]? = some u → w.cell? ⟨g, j * 6 + i, none⟩ = some u) ∧ IntsIn (fun b => if j < k then (B ≤ b ∧ b ≠ g) ∧ Soft w b else S b ∧ b < B) w lv (l.getD j default).list
theorem CpI.step {S : Nat → Prop} {B g : Nat} {w w3 : World} {l : List MOp} {k : Nat} {lv' : Value} (h : CpI S B g w l k) (hb : Below w.heap.size w w3) (hg : g < w.heap.size) (hB : B ≤ g) (hk : k < l.length) (hl : IntsIn (fun b => w.heap.size ≤ b ∧ Soft w3 b) w3 lv' (l.getD k default).list) : CpI S B g (w3.setCell ⟨g, k * 6 + 3, none⟩ lv') l (k + 1) := fun j hj => by
  obtain ⟨lv, h1, h2⟩ := h j hj
  have hblk : ∀ b, b ≠ g → (w3.setCell ⟨g, k * 6 + 3, none⟩ lv').heap[b]? = w3.heap[b]? := fun b hne => set_ne hne
  by_cases e : j = k
  · subst e
    refine ⟨lv', fun i u hi => ?_, hl.keep (fun b hb2 _ => hblk b (by have := hb2.1; omega)) (fun b _ hb2 => by have := hb2.1; rw [if_pos (by omega)]; exact ⟨⟨by omega, by omega⟩, hb2.2.keep (hblk b (by omega))⟩)⟩
    by_cases e3 : i = 3
    · subst e3
      have hc := h1 3 _ rfl
      have hu : lv' = u := by simpa using hi
      rw [← hu]
      exact World.cell?_setCell_same _ _ _ (((hb.cell (p := ⟨g, j * 6 + 3, none⟩) hg).trans hc))
    · have hi2 : ([.int .i64 (l.getD j default).kind, .string (l.getD j default).key, .int .i64 (l.getD j default).value, lv, .bool (l.getD j default).has, .bool (l.getD j default).nl] : List Value)[i]? = some u := by
        match i, e3, hi with
        | 0, _, hi => exact hi
        | 1, _, hi => exact hi
        | 2, _, hi => exact hi
        | 4, _, hi => exact hi
        | 5, _, hi => exact hi
        | _ + 6, _, hi => simp at hi
      refine (World.cell?_setCell_other _ _ _ _ (fun c => e3 (by have := congrArg Addr.off c; simp only [] at this; omega))).trans ((hb.cell (p := ⟨g, j * 6 + i, none⟩) hg).trans (h1 i u hi2))
  · refine ⟨lv, fun i u hi => ?_, h2.keep (fun b hb2 hbl => ?_) (fun b hbl hb2 => ?_)⟩
    · have hi6 : i < 6 := by
        have := (List.getElem?_eq_some_iff.1 hi).1
        simpa using this
      refine (World.cell?_setCell_other _ _ _ _ (fun c => by have := congrArg Addr.off c; simp only [] at this; omega)).trans ((hb.cell (p := ⟨g, j * 6 + i, none⟩) hg).trans (h1 i u hi))
    · have hne : b ≠ g := by
        dsimp only at hb2
        by_cases hjk : j < k
        · rw [if_pos hjk] at hb2
          exact hb2.1.2
        · rw [if_neg hjk] at hb2
          omega
      exact (hblk b hne).trans (hb.block b hbl)
    · try dsimp only at hb2
      by_cases hjk : j < k
      · rw [if_pos hjk] at hb2
        rw [if_pos (by omega)]
        exact ⟨hb2.1, hb2.2.keep ((hblk b hb2.1.2).trans (hb.block b ‹_›))⟩
      · rw [if_neg hjk] at hb2
        rw [if_neg (by omega)]
        exact hb2
theorem opRow_one {S : Nat → Prop} {w : World} (cs : List Value) (x : MOp) (h : OpRow S w cs x) : ∀ u ∈ cs, u.oneCell' = true := by
  obtain ⟨lv, rfl, ⟨ao, c, rfl, _⟩⟩ := h
  intro u hu
  simp only [List.mem_cons, List.not_mem_nil, or_false] at hu
  rcases hu with rfl | rfl | rfl | rfl | rfl | rfl <;> rfl
theorem ints_lt {S : Nat → Prop} {w : World} {v : Value} {l : List Int} (h : IntsIn S w v l) : IntsIn (fun b => S b ∧ b < w.heap.size) w v l := h.keep (fun _ _ _ => rfl) (fun b hb hs => ⟨hs, hb⟩)
set_option maxHeartbeats 4000000 in
set_option maxRecDepth 100000 in
theorem copy_is {S : Nat → Prop} (v : Value) (l : List MOp) (w : World) (h : OpsIn S w v l) (hks : ∀ o ∈ l, o.key.size ≤ 281474976710656) :
    Calls Try.prog 30 #[v] w fun e w' => ∃ v', e = .returned v' ∧ OpsOwn (fun b => w.heap.size ≤ b) w' v' l ∧ Below w.heap.size w w' := by
  have hlen : l.length * 64 ≤ 140737488355328 := by obtain ⟨_, _, _, h, _⟩ := h; exact h.1
  have CL := hid (cloneO_any (α := MOp) v l w h opRow_one)
  have HKS := hid hks
  clear h hks
  by_cases h0 : 0 < l.length
  · have hli : (l.length : Int) ≤ 2199023255552 := by omega
    go_enter Try.func30, Try.ntmps30
    go_wp2_with (go_at_call 55; refine CL.out.mono ?_; rintro e w1 ⟨v1, rfl, h1, b1⟩; obtain ⟨g, c, rfl, hc, hB, hgl, ⟨cs0, hg0⟩, hrow⟩ := h1.cell h0; have HR := hid hrow; have HG0 := hid hg0; have B1 := hid b1; clear h1 hrow hg0 b1 CL)
    have I0 : Hid (CpI S w.heap.size g w1 l 0) := fun j hj => by
      obtain ⟨cs, e1, ⟨lv, e2, e3⟩, e4⟩ := HR.out j hj
      subst e2
      exact ⟨lv, e4, (ints_lt e3).keep (keeps_below B1.out) (fun b _ hb => by rw [if_neg (Nat.not_lt_zero _)]; exact hb)⟩
    have F0 : Hid (∀ o, w1.frozen? ⟨g, o, none⟩ = false) := fun o => Lib.frozen_of_heap HG0.out o
    clear HR HG0
    go_loopg [4, 9] l.length (fun gg _ i wr => ∃ k : Nat, k ≤ l.length ∧ l.length - k ≤ gg ∧ i = .int .i64 k ∧ Aside (Below w.heap.size w wr) ∧ Aside (CpI S w.heap.size g wr l k) ∧ Aside (∀ o, wr.frozen? ⟨g, o, none⟩ = false) ∧ Aside (g < wr.heap.size))
    case atStart => exact ⟨0, Nat.zero_le _, by omega, rfl, B1.out, I0.out, F0.out, hgl⟩
    case round =>
      clear I0 F0 B1
      obtain ⟨k, hk, hgk, rfl, BR, IR, FR, GL⟩ := hrel
      by_cases hlt : k < l.length
      · have hlti : (k : Int) < l.length := by omega
        obtain ⟨lv, hcs, hints⟩ := IR.out k hlt
        have c1 := hcs 1 _ rfl
        have c3 := hcs 3 _ rfl
        have hkey : (l.getD k default).key.size ≤ 281474976710656 := HKS.out _ (by simp [List.getD, List.getElem?_eq_getElem hlt])
        obtain ⟨la, lc, rfl, _⟩ := id hints
        have SC := hid (fun W => sclone_is (l.getD k default).key W hkey)
        have HIN := hid hints
        have hgl2 : g < wr.heap.size := GL.out
        have hkc : (k : Int) < c := by omega
        obtain ⟨ky, hky⟩ : ∃ ky, (l.getD k default).key = ky := ⟨_, rfl⟩
        have HKY := hid hky
        rw [hky] at c1 SC
        obtain ⟨lk, hlk⟩ : ∃ lk, (l.getD k default).list = lk := ⟨_, rfl⟩
        have HLK := hid hlk
        rw [hlk] at c3 HIN
        clear hcs hints hkey hky hlk
        go_wp2_with (go_at_call 56; refine (SC.out _).mono ?_; rintro e w2 ⟨rfl, b2⟩; have B2 := hid b2; have d1 : w2.cell? ⟨g, k * 6 + 1, none⟩ = some (.string ky) := (b2.cell (p := ⟨g, k * 6 + 1, none⟩) hgl2).trans c1; have d3 := (b2.cell (p := ⟨g, k * 6 + 3, none⟩) hgl2).trans c3; have f1 : w2.frozen? ⟨g, k * 6 + 1, none⟩ = false := (b2.frozen (p := ⟨g, k * 6 + 1, none⟩) hgl2).trans (FR.out _); clear b2)
        rw [setCell_self d1]
        have IK : Hid (IntsIn (fun b => if k < k then (w.heap.size ≤ b ∧ b ≠ g) ∧ Soft wr b else S b ∧ b < w.heap.size) w2 (.slice la lk.length lc) lk) := HIN.out.keep (keeps_below B2.out) (fun _ _ h => h)
        clear c1 d1 f1
        go_wp2_with fail
        go_at_call 50
        refine (cloneInts_soft _ lk _ IK.out).mono ?_
        rintro e w3 ⟨v3, rfl, h3, b3⟩
        have hsz2 := B2.out.size
        have B3 : Hid (Below wr.heap.size wr w3) := B2.out.trans (b3.mono hsz2)
        have f3 : w3.frozen? ⟨g, k * 6 + 3, none⟩ = false := (B3.out.frozen (p := ⟨g, k * 6 + 3, none⟩) hgl2).trans (FR.out _)
        have e3 := (B3.out.cell (p := ⟨g, k * 6 + 3, none⟩) hgl2).trans c3
        obtain ⟨na, nc, rfl, _⟩ := id h3
        have I3 : Hid (CpI S w.heap.size g (w3.setCell ⟨g, k * 6 + 3, none⟩ (.slice na lk.length nc)) l (k + 1)) := IR.out.step B3.out hgl2 hB hlt (by rw [show (l.getD k default).list = lk from HLK.out]; exact h3.keep (fun _ _ _ => rfl) (fun b _ hb => ⟨by have := hb.1; omega, hb.2⟩))
        have BN : Hid (Below w.heap.size w (w3.setCell ⟨g, k * 6 + 3, none⟩ (.slice na lk.length nc))) := (BR.out.trans (B3.out.mono BR.out.size)).setCell hB _
        have FN : Hid (∀ o, (w3.setCell ⟨g, k * 6 + 3, none⟩ (.slice na lk.length nc)).frozen? ⟨g, o, none⟩ = false) := fun o => by
          show World.frozen? _ _ = false
          rw [World.frozen?_setCell]
          exact (B3.out.frozen (p := ⟨g, o, none⟩) hgl2).trans (FR.out o)
        have GN : Hid (g < (w3.setCell ⟨g, k * 6 + 3, none⟩ (.slice na lk.length nc)).heap.size) := by
          show g < _
          have := B3.out.size
          simp [World.setCell]
          omega
        clear h3 b3 c3 d3 hsz2
        go_wp2_with fail
        go_roundg (l.length - (k + 1))
        case measure => omega
        case rel => exact ⟨k + 1, by omega, by omega, by go_num, BN.out, I3.out, FN.out, GN.out⟩
      · have hke : k = l.length := by omega
        have FIN : Hid (OpsOwn (fun b => w.heap.size ≤ b) wr (.slice (some ⟨g, 0, none⟩) l.length c) l) := ⟨_, c, rfl, ⟨hlen, hc⟩, fun _ => ⟨g, rfl, hB, FR.out, fun j hj => by
          obtain ⟨lv, q1, q2⟩ := IR.out j hj
          exact ⟨_, rfl, ⟨lv, rfl, q2.keep (fun _ _ _ => rfl) (fun b _ hb => by rw [if_pos (by omega)] at hb; exact hb)⟩, q1⟩⟩⟩
        clear hke
        go_wp2_with fail
        go_ret
        exact ⟨_, rfl, FIN.out, BR.out⟩
  · have hl0 : l = [] := List.length_eq_zero_iff.1 (by omega)
    subst hl0
    go_enter Try.func30, Try.ntmps30
    go_wp2_with (go_at_call 55; refine CL.out.mono ?_; rintro e w1 ⟨v1, rfl, ⟨rows, _, _, _, h1⟩, b1⟩; obtain ⟨a1, c1, rfl⟩ := own_slice h1; have B1 := hid b1; clear h1 b1 CL)
    go_loopg [4, 9] 0 (fun gg _ i wr => i = .int .i64 0 ∧ Aside (Below w.heap.size w wr))
    case atStart => exact ⟨rfl, B1.out⟩
    case round =>
      obtain ⟨rfl, BR⟩ := hrel
      go_wp2_with fail
      go_ret
      exact ⟨_, rfl, ⟨_, _, rfl, ⟨by simp, by simp⟩, fun h => absurd h (by simp)⟩, BR.out⟩
end Go.Proofs.Ytnfbcmnlloipiaa
namespace Go.Proofs
open Go.Shelf
def Try.keys36_ren : Go.Shelf.Ren := ⟨fun | 7 => 33 | 10 => 61 | n => n, fun | 23 => 60 | 26 => 9 | 3 => 3 | 28 => 73 | 0 => 0 | 27 => 72 | 33 => 66 | 4 => 4 | n => n, fun | n => n⟩
theorem Try.keys36 : Go.Proofs.SlLaysZ.n7 Try.prog Try.keys36_ren := {
  mixed := by kernel_rfl
  f7 := ⟨Try.f33.name, by decide, Try.func33.trans (congrArg some (by kernel_rfl))⟩
  f10 := ⟨Try.f61.name, by decide, Try.func61.trans (congrArg some (by kernel_rfl))⟩
  t0 := Try.underlying0
  a0 := Try.isAgg0
  z0 := Try.sizeOf0
  v0 := Try.zeroValue0
  t4 := Try.underlying4
  a4 := Try.isAgg4
  z4 := Try.sizeOf4
  v4 := Try.zeroValue4
  t23 := Try.underlying60
  a23 := Try.isAgg60
  z23 := Try.sizeOf60
  v23 := Try.zeroValue60
  t26 := Try.underlying9
  a26 := Try.isAgg9
  z26 := Try.sizeOf9
  v26 := Try.zeroValue9
  t27 := Try.underlying72
  a27 := Try.isAgg72
  z27 := Try.sizeOf72
  v27 := Try.zeroValue72
  t28 := Try.underlying73
  a28 := Try.isAgg73
  z28 := Try.sizeOf73
  v28 := Try.zeroValue73
  t33 := Try.underlying66
  a33 := Try.isAgg66
  z33 := Try.sizeOf66
  v33 := Try.zeroValue66 }
def Try.sorted35_ren : Go.Shelf.Ren := ⟨fun | 6 => 32 | 8 => 59 | 9 => 60 | 11 => 80 | 13 => 82 | 12 => 81 | 23 => 97 | 24 => 98 | 14 => 88 | 15 => 89 | 16 => 90 | 17 => 91 | 18 => 92 | 19 => 93 | 20 => 94 | 21 => 95 | 22 => 96 | 25 => 100 | 26 => 101 | 27 => 102 | 28 => 103 | 29 => 104 | 30 => 105 | 31 => 106 | n => n, fun | 26 => 9 | 28 => 73 | 24 => 26 | 0 => 0 | 3 => 3 | 37 => 56 | 48 => 151 | 50 => 153 | 4 => 4 | 40 => 144 | 39 => 143 | 45 => 130 | 5 => 5 | 9 => 9 | 51 => 155 | 55 => 159 | 57 => 161 | 58 => 162 | 33 => 66 | n => n, fun | n => n⟩
theorem Try.sorted35 : Go.Proofs.SlLaysZ.n6 Try.prog Try.sorted35_ren := {
  mixed := by kernel_rfl
  f6 := ⟨Try.f32.name, by decide, Try.func32.trans (congrArg some (by kernel_rfl))⟩
  f8 := ⟨Try.f59.name, by decide, Try.func59.trans (congrArg some (by kernel_rfl))⟩
  f11 := ⟨Try.f80.name, by decide, Try.func80.trans (congrArg some (by kernel_rfl))⟩
  t0 := Try.underlying0
  a0 := Try.isAgg0
  z0 := Try.sizeOf0
  v0 := Try.zeroValue0
  t24 := Try.underlying26
  a24 := Try.isAgg26
  z24 := Try.sizeOf26
  v24 := Try.zeroValue26
  t26 := Try.underlying9
  a26 := Try.isAgg9
  z26 := Try.sizeOf9
  v26 := Try.zeroValue9
  t28 := Try.underlying73
  a28 := Try.isAgg73
  z28 := Try.sizeOf73
  v28 := Try.zeroValue73
  i26 := by kernel_rfl }
def Try.sort50_ren : Go.Shelf.Ren := ⟨fun | 6 => 60 | 8 => 82 | 9 => 81 | 19 => 97 | 20 => 98 | 21 => 88 | 22 => 89 | 23 => 90 | 24 => 91 | 25 => 92 | 26 => 93 | 27 => 94 | 28 => 95 | 29 => 96 | 36 => 100 | 31 => 101 | 32 => 102 | 37 => 103 | 38 => 104 | 39 => 105 | 41 => 106 | n => n, fun | 27 => 26 | 29 => 9 | 3 => 3 | 32 => 56 | 26 => 26 | 0 => 0 | 44 => 151 | 46 => 153 | 4 => 4 | 36 => 144 | 35 => 143 | 41 => 130 | 5 => 5 | 9 => 9 | 53 => 155 | 57 => 159 | 63 => 161 | 64 => 162 | n => n, fun | n => n⟩
theorem Try.sort50 : Go.Proofs.SlLaysM.n6 Try.prog Try.sort50_ren := {
  mixed := by kernel_rfl
  f6 := ⟨Try.f60.name, by decide, Try.func60.trans (congrArg some (by kernel_rfl))⟩
  f8 := Try.func82.trans (congrArg some (by kernel_rfl))
  f9 := ⟨Try.f81.name, by decide, Try.func81.trans (congrArg some (by kernel_rfl))⟩
  f19 := Try.func97.trans (congrArg some (by kernel_rfl))
  f20 := Try.func98.trans (congrArg some (by kernel_rfl))
  f21 := ⟨Try.f88.name, by decide, Try.func88.trans (congrArg some (by kernel_rfl))⟩
  f22 := ⟨Try.f89.name, by decide, Try.func89.trans (congrArg some (by kernel_rfl))⟩
  f23 := ⟨Try.f90.name, by decide, Try.func90.trans (congrArg some (by kernel_rfl))⟩
  f24 := ⟨Try.f91.name, by decide, Try.func91.trans (congrArg some (by kernel_rfl))⟩
  f25 := ⟨Try.f92.name, by decide, Try.func92.trans (congrArg some (by kernel_rfl))⟩
  f26 := ⟨Try.f93.name, by decide, Try.func93.trans (congrArg some (by kernel_rfl))⟩
  f27 := ⟨Try.f94.name, by decide, Try.func94.trans (congrArg some (by kernel_rfl))⟩
  f28 := ⟨Try.f95.name, by decide, Try.func95.trans (congrArg some (by kernel_rfl))⟩
  f29 := ⟨Try.f96.name, by decide, Try.func96.trans (congrArg some (by kernel_rfl))⟩
  f31 := Try.func101.trans (congrArg some (by kernel_rfl))
  f32 := Try.func102.trans (congrArg some (by kernel_rfl))
  f36 := ⟨Try.f100.name, by decide, Try.func100.trans (congrArg some (by kernel_rfl))⟩
  f37 := ⟨Try.f103.name, by decide, Try.func103.trans (congrArg some (by kernel_rfl))⟩
  f38 := ⟨Try.f104.name, by decide, Try.func104.trans (congrArg some (by kernel_rfl))⟩
  f39 := ⟨Try.f105.name, by decide, Try.func105.trans (congrArg some (by kernel_rfl))⟩
  f41 := ⟨Try.f106.name, by decide, Try.func106.trans (congrArg some (by kernel_rfl))⟩
  t0 := Try.underlying0
  a0 := Try.isAgg0
  z0 := Try.sizeOf0
  v0 := Try.zeroValue0
  t3 := Try.underlying3
  a3 := Try.isAgg3
  z3 := Try.sizeOf3
  v3 := Try.zeroValue3
  t4 := Try.underlying4
  a4 := Try.isAgg4
  z4 := Try.sizeOf4
  v4 := Try.zeroValue4
  t5 := Try.underlying5
  a5 := Try.isAgg5
  z5 := Try.sizeOf5
  v5 := Try.zeroValue5
  t9 := Try.underlying9
  a9 := Try.isAgg9
  z9 := Try.sizeOf9
  v9 := Try.zeroValue9
  t26 := Try.underlying26
  a26 := Try.isAgg26
  z26 := Try.sizeOf26
  v26 := Try.zeroValue26
  t27 := Try.underlying26
  a27 := Try.isAgg26
  z27 := Try.sizeOf26
  v27 := Try.zeroValue26
  t29 := Try.underlying9
  a29 := Try.isAgg9
  z29 := Try.sizeOf9
  v29 := Try.zeroValue9
  t32 := Try.underlying56
  a32 := Try.isAgg56
  z32 := Try.sizeOf56
  v32 := Try.zeroValue56
  t35 := Try.underlying143
  a35 := Try.isAgg143
  z35 := Try.sizeOf143
  v35 := Try.zeroValue143
  t36 := Try.underlying144
  a36 := Try.isAgg144
  z36 := Try.sizeOf144
  v36 := Try.zeroValue144
  t41 := Try.underlying130
  a41 := Try.isAgg130
  z41 := Try.sizeOf130
  v41 := Try.zeroValue130
  t44 := Try.underlying151
  a44 := Try.isAgg151
  z44 := Try.sizeOf151
  v44 := Try.zeroValue151
  t46 := Try.underlying153
  a46 := Try.isAgg153
  z46 := Try.sizeOf153
  v46 := Try.zeroValue153
  t53 := Try.underlying155
  a53 := Try.isAgg155
  z53 := Try.sizeOf155
  v53 := Try.zeroValue155
  t57 := Try.underlying159
  a57 := Try.isAgg159
  z57 := Try.sizeOf159
  v57 := Try.zeroValue159
  t63 := Try.underlying161
  a63 := Try.isAgg161
  z63 := Try.sizeOf161
  v63 := Try.zeroValue161
  t64 := Try.underlying162
  a64 := Try.isAgg162
  z64 := Try.sizeOf162
  v64 := Try.zeroValue162 }
end Go.Proofs
namespace Go.Proofs
set_option linter.unusedVariables false
set_option linter.unusedSimpArgs false
open Go.RowKit Go.Maps Go.Sort Go.Shelf

/-- slices.Sort's two contracts at this dump, at the fence that asks nothing. -/
theorem Try.sorts35 (m : Nat) : AnyZ.SortsIn Try.prog Try.sorted35_ren Fence.wide m :=
  ⟨fun blk off cap ss W hH hblk hsz => callsIn_wide.2 (AnyM.slices_Sort_string Try.sort50 blk off cap ss W hH hblk hsz),
   fun p cap W => callsIn_wide.2 (AnyM.slices_Sort_string_none Try.sort50 p cap W)⟩

/-- **maps.Keys[map[string]int,string,int], at whatever map, the nil one too:** a function value over ONE NEW BLOCK, which holds the map. -/
theorem Try.maps_Keys_36 (mb : Option Nat) (W : World) : CallsIn Fence.wide 5 Try.prog 33 #[.map mb] W fun e w' => e = .returned (.func (.func 61) #[] #[.pointer (some ⟨W.heap.size, 0, none⟩)]) ∧ w' = W.alloc (.cells #[.map mb] 60) :=
  AnyZ.keys_in Try.keys36 Fence.wide 5 trivial rfl mb W

set_option maxHeartbeats 1000000 in
/-- **slices.Sorted[string] AT WHAT maps.Keys[map[string]int,string,int] HANDED BACK FOR A MAP THAT IS NOT nil** ('w': the world AHEAD of maps.Keys' call): A NEW SLICE THAT HOLDS THE MAP's KEYS, SORTED; nil just where it has none; nothing that lay before has turned. -/
theorem Try.slices_Sorted_keys_35_36 {H : Type} (b nn : Nat) (D0 : DataW H) (R : Value → Option (DataW H × List MemPlace)) (w : World) (hown : w.ownsMap Try.prog 9 R b nn D0) (hmax : Maps.size D0 ≤ maxLen) (hbytes : Maps.size D0 * 16 ≤ 140737488355328) :
    CallsIn Fence.wide 5 Try.prog 32 #[.func (.func 61) #[] #[.pointer (some ⟨w.heap.size, 0, none⟩)]] (w.alloc (.cells #[.map (some b)] 60)) fun e w' => ∃ (v : Value) (ss : List (List UInt8)), e = .returned v ∧ ss.Perm (strKeys D0) ∧
      w'.ownsRow (w.alloc (.cells #[.map (some b)] 60)).heap.size 9 1 v ss.length ((ss.mergeSort (fun x y => decide (x ≤ y))).map encStr) ∧ (v = .slice none 0 0 ↔ ss = []) ∧ Below (w.alloc (.cells #[.map (some b)] 60)).heap.size (w.alloc (.cells #[.map (some b)] 60)) w' := by
  have hbl := hown.lt
  have hseq : SeqGives Fence.wide 2 Try.prog 61 #[.pointer (some ⟨w.heap.size, 0, none⟩)] encStr (fun ss => ss.Perm (strKeys D0)) (Maps.size D0) (w.alloc (.cells #[.map (some b)] 60)) :=
    AnyZ.keys_gives (ρ := Try.keys36_ren) { Try.keys36 with } Fence.wide _ trivial rfl (by omega) w.heap.size b nn D0 _ (by simp) (by simp) (by
      obtain ⟨es, clock, hb, Ft, hs, hD⟩ := hown
      exact ⟨es, clock, (Below.heap_alloc _ _ b hbl).trans hb, Ft, hs, hD⟩)
  exact AnyZ.sorted_in Try.sorted35 Fence.wide 5 trivial trivial trivial trivial rfl (by omega) (Try.sorts35 _) (enters_of Try.func60 (by kernel_rfl) rfl) 61 #[.pointer (some ⟨w.heap.size, 0, none⟩)] trivial (enters_of Try.func61 (by kernel_rfl) rfl) _ _ hmax hbytes _ hseq

end Go.Proofs
namespace Go.Proofs.Ytnfbcmnlloipiaa
set_option linter.unusedVariables false
set_option linter.unusedSimpArgs false
open Go.RowKit Go.Lib Go.Maps Go.Sort
open Tx (MTxn info_parts flatten_len flatten_get RowsIn.cells RowCells TxnRow TxnsIn setCell_self cloneInts_any OpsOwn)

/-- The operations of a transaction, with their places. -/
def notesT (k : Nat) (ops : List MOp) : List MN := (List.range ops.length).map fun i => (k, i, ops.getD i default)
def notes (l : List MTxn) : Nat → List MN
  | 0 => []
  | k + 1 => notes l k ++ notesT k (l.getD k default).ops
theorem notesT_len (k : Nat) (ops : List MOp) : (notesT k ops).length = ops.length := by simp [notesT]
theorem notesT_take (k : Nat) (ops : List MOp) (i : Nat) (h : i < ops.length) : (notesT k ops).take (i + 1) = (notesT k ops).take i ++ [(k, i, ops.getD i default)] := by
  rw [List.take_succ_eq_append_getElem (by rw [notesT_len]; exact h)]
  simp [notesT]
theorem notes_len (l : List MTxn) (h : ∀ t ∈ l, t.ops.length ≤ 10) : ∀ k, (notes l k).length ≤ 10 * k
  | 0 => by simp [notes]
  | k + 1 => by
    have ih := notes_len l h k
    rw [notes, List.length_append, notesT_len]
    have : (l.getD k default).ops.length ≤ 10 := by
      by_cases hk : k < l.length
      · have e : l.getD k default = l[k] := by rw [List.getD, List.getElem?_eq_getElem hk]; rfl
        rw [e]
        exact h _ (List.getElem_mem hk)
      · have e : l.getD k default = default := by rw [List.getD, List.getElem?_eq_none (by omega)]; rfl
        rw [e]
        exact Nat.zero_le _
    omega
/-- What can be told of an operation's key and value. -/
def OpOk (o : MOp) : Prop := o.key.size ≤ 281474976710656 ∧ (Lit.int .i64 o.value).wf = true
/-- A table that is being made: the first k transactions have operations of their own. -/
structure Nw (S : Nat → Prop) (B g tb kb wb lb : Nat) (tv : Value) (F D : Nat → Prop) (w : World) (m : Nat) (u : Bool) (N : List MN) (l : List MTxn) (k : Nat) : Prop where
  tab : Tb B w tb kb wb lb tv (.slice none 0 0) F m u N N N
  uq : u = true ↔ uniqN N
  dg : 0 < l.length → D g
  dlt : ∀ b, D b → B ≤ b ∧ b < w.heap.size ∧ ¬ F b
  fz : 0 < l.length → ∀ o, w.frozen? ⟨g, o, none⟩ = false
  row : ∀ j, j < l.length → ∃ ov, (∀ i u, ([.int .i64 (l.getD j default).proc, .int .i64 (l.getD j default).state, .int .i64 (l.getD j default).since, .int .i64 (l.getD j default).till, ov] : List Value)[i]? = some u → w.cell? ⟨g, j * 5 + i, none⟩ = some u) ∧ OpsIn (fun b => if j < k then D b ∧ b ≠ g else S b ∧ b < B) w ov (l.getD j default).ops
section
variable {S : Nat → Prop} {B g tb kb wb lb : Nat} {tv : Value} {F D : Nat → Prop} {w w' : World} {m : Nat} {u : Bool} {N : List MN} {l : List MTxn} {k : Nat}
theorem Nw.low (h : Nw S B g tb kb wb lb tv F D w m u N l k) {b : Nat} (hb : F b) : B ≤ b ∧ b < w.heap.size := h.tab.flt b hb
/-- What is laid in blocks of F, or in new ones, leaves the transactions. -/
theorem Nw.rows (h : Nw S B g tb kb wb lb tv F D w m u N l k) (hg : Gro F w w') : (0 < l.length → ∀ o, w'.frozen? ⟨g, o, none⟩ = false) ∧ ∀ j, j < l.length → ∃ ov, (∀ i u, ([.int .i64 (l.getD j default).proc, .int .i64 (l.getD j default).state, .int .i64 (l.getD j default).since, .int .i64 (l.getD j default).till, ov] : List Value)[i]? = some u → w'.cell? ⟨g, j * 5 + i, none⟩ = some u) ∧ OpsIn (fun b => if j < k then D b ∧ b ≠ g else S b ∧ b < B) w' ov (l.getD j default).ops := by
  have hgb : 0 < l.length → w'.heap[g]? = w.heap[g]? := fun h0 => hg.block g (h.dlt g (h.dg h0)).2.1 (h.dlt g (h.dg h0)).2.2
  refine ⟨fun h0 o => (Tx.frozen_of_block (hgb h0) o).trans (h.fz h0 o), fun j hj => ?_⟩
  obtain ⟨ov, h1, h2⟩ := h.row j hj
  refine ⟨ov, fun i u hi => (World.cell?_of_block (a := ⟨g, j * 5 + i, none⟩) (hgb (by omega))).trans (h1 i u hi), h2.keep (fun b hb hl => hg.block b hl (fun c => ?_)) (fun _ _ x => x)⟩
  dsimp only at hb
  by_cases hjk : j < k
  · rw [if_pos hjk] at hb
    exact (h.dlt b hb.1).2.2 c
  · rw [if_neg hjk] at hb
    have := (h.low c).1
    omega
theorem Nw.later (h : Nw S B g tb kb wb lb tv F D w m u N l k) (hb : Below w.heap.size w w') : Nw S B g tb kb wb lb tv F D w' m u N l k := by
  obtain ⟨r1, r2⟩ := h.rows (Gro.of_below hb)
  exact ⟨h.tab.later hb, h.uq, h.dg, fun b hb2 => ⟨(h.dlt b hb2).1, by have := hb.size; have := (h.dlt b hb2).2.1; omega, (h.dlt b hb2).2.2⟩, r1, r2⟩
/-- An operation is noted. -/
theorem Nw.noted (h : Nw S B g tb kb wb lb tv F D w m u N l k) {e : Ending} {x : MN} (hp : NPost B w tb kb wb lb tv (.slice none 0 0) F m N x e w') : ∃ u', Nw S B g tb kb wb lb tv (wide F w w') D w' (m + 3) u' (N ++ [x]) l k := by
  obtain ⟨_, ⟨u', h1, h2⟩, h3⟩ := hp
  obtain ⟨r1, r2⟩ := h.rows h3
  exact ⟨u', h2, h1, h.dg, fun b hb => ⟨(h.dlt b hb).1, by have := h3.size; have := (h.dlt b hb).2.1; omega, fun c => by
    rcases c with c | c
    · exact (h.dlt b hb).2.2 c
    · have := (h.dlt b hb).2.1; omega⟩, r1, r2⟩
/-- A transaction gets operations of its own. -/
theorem Nw.copied (h : Nw S B g tb kb wb lb tv F D w m u N l k) {w1 : World} {ov' : Value} (hB : B ≤ w.heap.size) (hk : k < l.length) (hb : Below w.heap.size w w1) (ho : OpsOwn (fun b => w.heap.size ≤ b) w1 ov' (l.getD k default).ops) : Nw S B g tb kb wb lb tv F (fun b => D b ∨ (w.heap.size ≤ b ∧ b < w1.heap.size)) (w1.setCell ⟨g, k * 5 + 4, none⟩ ov') m u N l (k + 1) := by
  have h1 := h.later hb
  have h0 : 0 < l.length := by omega
  have hgl := (h.dlt g (h.dg h0)).2.1
  have hblk : ∀ b, b ≠ g → (w1.setCell ⟨g, k * 5 + 4, none⟩ ov').heap[b]? = w1.heap[b]? := fun b hne => set_ne hne
  have hFg : ¬ F g := (h.dlt g (h.dg h0)).2.2
  have hsz : (w1.setCell ⟨g, k * 5 + 4, none⟩ ov').heap.size = w1.heap.size := by simp [World.setCell]
  have hgro : Gro (fun b => b = g) w1 (w1.setCell ⟨g, k * 5 + 4, none⟩ ov') := ⟨rfl, rfl, rfl, by omega, fun b _ hb => hblk b hb⟩
  refine ⟨h1.tab.keep hgro (fun b hb2 e => hFg (e ▸ hb2)), h.uq, fun _ => .inl (h.dg h0), fun b hb2 => ?_, fun _ o => ?_, fun j hj => ?_⟩
  · have := hb.size
    rcases hb2 with hb2 | hb2
    · exact ⟨(h.dlt b hb2).1, by have := (h.dlt b hb2).2.1; omega, (h.dlt b hb2).2.2⟩
    · exact ⟨by omega, by omega, fun c => by have := (h.low c).2; omega⟩
  · rw [World.frozen?_setCell]
    exact h1.fz h0 o
  · obtain ⟨ov, q1, q2⟩ := h1.row j hj
    by_cases e : j = k
    · subst e
      refine ⟨ov', fun i u hi => ?_, ho.ops.keep (fun b hb2 _ => hblk b (by omega)) (fun b hb3 hb2 => by rw [if_pos (by omega)]; exact ⟨.inr ⟨hb2, hb3⟩, by omega⟩)⟩
      by_cases e4 : i = 4
      · subst e4
        have hu : ov' = u := by simpa using hi
        rw [← hu]
        exact World.cell?_setCell_same _ _ _ (q1 4 _ rfl)
      · have hi2 : ([.int .i64 (l.getD j default).proc, .int .i64 (l.getD j default).state, .int .i64 (l.getD j default).since, .int .i64 (l.getD j default).till, ov] : List Value)[i]? = some u := by
          match i, e4, hi with
          | 0, _, hi => exact hi
          | 1, _, hi => exact hi
          | 2, _, hi => exact hi
          | 3, _, hi => exact hi
          | _ + 5, _, hi => simp at hi
        exact (World.cell?_setCell_other _ _ _ _ (fun c => e4 (by have := congrArg Addr.off c; simp only [] at this; omega))).trans (q1 i u hi2)
    · refine ⟨ov, fun i u hi => ?_, q2.keep (fun b hb2 hbl => ?_) (fun b _ hb2 => ?_)⟩
      · have hi5 : i < 5 := by
          have := (List.getElem?_eq_some_iff.1 hi).1
          simpa using this
        exact (World.cell?_setCell_other _ _ _ _ (fun c => by have := congrArg Addr.off c; simp only [] at this; omega)).trans (q1 i u hi)
      · dsimp only at hb2
        refine hblk b ?_
        by_cases hjk : j < k
        · rw [if_pos hjk] at hb2
          exact hb2.2
        · rw [if_neg hjk] at hb2
          have := (h.dlt g (h.dg h0)).1
          omega
      · by_cases hjk : j < k
        · rw [if_pos hjk] at hb2
          rw [if_pos (by omega)]
          exact ⟨.inl hb2.1, hb2.2⟩
        · rw [if_neg hjk] at hb2
          rw [if_neg (by omega)]
          exact hb2
end
theorem txnRow_one {S : Nat → Prop} {w : World} (cs : List Value) (x : MTxn) (h : TxnRow S w cs x) : ∀ u ∈ cs, u.oneCell' = true := by
  obtain ⟨lv, rfl, ⟨ao, c, rfl, _⟩⟩ := h
  intro u hu
  simp only [List.mem_cons, List.not_mem_nil, or_false] at hu
  rcases hu with rfl | rfl | rfl | rfl | rfl <;> rfl
theorem keys_c (mb : Option Nat) (W : World) : Calls Try.prog 33 #[.map mb] W fun e w' => e = .returned (.func (.func 61) #[] #[.pointer (some ⟨W.heap.size, 0, none⟩)]) ∧ w' = W.alloc (.cells #[.map mb] 60) :=
  (callsIn_wide (n := 5)).1 (Try.maps_Keys_36 mb W)
/-- The keys are those of a map that holds the kinds. -/
def KeySet (ss : List (List UInt8)) (N : List MN) : Prop := ∃ (D : DataW Value) (w0 : World) (b n : Nat) (f : Value → Option Value), ss.Perm (strKeys D) ∧ w0.ownsMap Try.prog 9 rawR b n D ∧ (∀ key kl, keyOf Try.prog 9 key = some kl → ∀ zd, D.atKey kl zd = ((f key).map DataW.held).getD zd) ∧ ∀ s, f (.string s) = if kindN N s = 0 then none else some (.int .i64 (kindN N s))
/-- The keys, rising. -/
def KeyRow (B : Nat) (w : World) (kv : Value) (N : List MN) : Prop := ∃ ss : List (List UInt8), w.ownsRow B 9 1 kv ss.length ((ss.mergeSort (fun x y => decide (x ≤ y))).map encStr) ∧ KeySet ss N
theorem sorted_c (b n : Nat) (N : List MN) (w : World) (h : Ks w b n N) (hn : n ≤ 100000) : Calls Try.prog 32 #[.func (.func 61) #[] #[.pointer (some ⟨w.heap.size, 0, none⟩)]] (w.alloc (.cells #[.map (some b)] 60)) fun e w' => ∃ v, e = .returned v ∧ KeyRow w.heap.size w' v N ∧ Below (w.alloc (.cells #[.map (some b)] 60)).heap.size (w.alloc (.cells #[.map (some b)] 60)) w' := by
  obtain ⟨f, ⟨D, hown, hD⟩, hf⟩ := h
  have hs : Maps.size D ≤ n := hown.size_le
  refine ((callsIn_wide (n := 5)).1 (Try.slices_Sorted_keys_35_36 b n D _ w hown (by unfold maxLen; omega) (by omega))).mono ?_
  rintro e w' ⟨v, ss, rfl, hS, hrow, hnil, hb⟩
  refine ⟨v, rfl, ⟨ss, ?_, D, w, b, n, f, hS, hown, hD, hf⟩, hb⟩
  refine ⟨hrow.1, ?_⟩
  rcases hrow.2 with h1 | ⟨g, cap, cur, hv, hg, hr⟩
  · exact .inl h1
  · exact .inr ⟨g, cap, cur, hv, by rw [alloc_size] at hg; omega, hr⟩
theorem Tb.setKeys {B : Nat} {w : World} {tb kb wb lb : Nat} {tv kv : Value} {F : Nat → Prop} {n : Nat} {u : Bool} {Nk Nw' Nl : List MN} (h : Tb B w tb kb wb lb tv kv F n u Nk Nw' Nl) (kv' : Value) : Tb B (w.setCell ⟨tb, 1, none⟩ kv') tb kb wb lb tv kv' F n u Nk Nw' Nl := by
  obtain ⟨b1, b2, b3⟩ := h.boxes
  obtain ⟨S, hS⟩ := h.ws
  have hk : ∀ b, b ≠ tb → (w.setCell ⟨tb, 1, none⟩ kv').heap[b]? = w.heap[b]? := fun b hne => set_ne hne
  refine ⟨?_, h.n1, h.n2, h.n3, h.ft, h.fk, h.fw, h.fl, fun b hb => ⟨(h.flt b hb).1, by simpa [World.setCell] using (h.flt b hb).2⟩, h.ks.same (hk kb (Ne.symm b1)), ⟨S, ?_⟩, h.lt.same (hk lb (Ne.symm b3))⟩
  · unfold World.setCell
    simp [Array.getElem?_modify, h.box]
  · obtain ⟨fw, q1, q2⟩ := hS.map
    exact ⟨⟨fw, q1.same (hk wb (Ne.symm b2)), q2⟩, hS.nil, fun s v => own_same (hS.own s v) (fun g hg => hk g (h.row hS hg).1), hS.foot, hS.apart⟩
/-- A table in memory, as New leaves it. -/
def Made (B : Nat) (w : World) (tb : Nat) (l : List MTxn) : Prop :=
  ∃ kb wb lb tv kv F D m u, Tb B w tb kb wb lb tv kv F m u (notes l l.length) (notes l l.length) (notes l l.length) ∧ (u = true ↔ uniqN (notes l l.length)) ∧ KeyRow B w kv (notes l l.length) ∧ (∀ g, kv.ownBlock = some g → D g) ∧ (∀ b, D b → B ≤ b ∧ b < w.heap.size ∧ ¬ F b) ∧ TxnsIn D w tv l ∧ m ≤ 100000
end Go.Proofs.Ytnfbcmnlloipiaa
