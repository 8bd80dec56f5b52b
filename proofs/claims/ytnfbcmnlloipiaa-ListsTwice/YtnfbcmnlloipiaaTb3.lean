/-
  slices.Clone of rows; ops.Copy.
-/
import Derived.Test.YtnfbcmnlloipiaaTb2
namespace Go.Proofs.Ytnfbcmnlloipiaa
set_option linter.unusedVariables false
set_option linter.unusedSimpArgs false
open Go.RowKit Go.Lib Go.Maps
open Tx (MTxn info_parts flatten_len flatten_get RowsIn.cells RowCells TxnRow TxnsIn setCell_self cloneInts_any cloneInts_soft Soft OpsOwn)

/-- The rows of a slice, one by one. -/
theorem rows_pick {α : Type} [Inhabited α] {k : Nat} {R : List Value → α → Prop} {w : World} {ao : Option Addr} {l : List α} (h : RowCells k R w ao l l.length) :
    ∃ rows : List (List Value), rows.length = l.length ∧ (∀ r ∈ rows, r.length = k) ∧ ∀ j, j < l.length → R (rows.getD j []) (l.getD j default) ∧ ∃ b o, ao = some ⟨b, o, none⟩ ∧ b < w.heap.size ∧ ∀ i u, (rows.getD j [])[i]? = some u → w.cell? ⟨b, o + j * k + i, none⟩ = some u := by
  have ex : ∀ j, ∃ cs : List Value, j < l.length → cs.length = k ∧ R cs (l.getD j default) ∧ ∃ b o, ao = some ⟨b, o, none⟩ ∧ b < w.heap.size ∧ ∀ i u, cs[i]? = some u → w.cell? ⟨b, o + j * k + i, none⟩ = some u := fun j => by
    by_cases hj : j < l.length
    · obtain ⟨b, o, cs, h1, h2, h3, h4, h5⟩ := h j hj
      exact ⟨cs, fun _ => ⟨h3, h4, b, o, h1, h2, h5⟩⟩
    · exact ⟨[], fun c => absurd c hj⟩
  obtain ⟨f, hf⟩ := Classical.skolem.1 ex
  have e : ∀ j, j < l.length → ((List.range l.length).map f).getD j [] = f j := fun j hj => by simp [List.getD, hj]
  refine ⟨(List.range l.length).map f, by simp, fun r hr => ?_, fun j hj => ?_⟩
  · obtain ⟨j, hj, rfl⟩ := List.mem_map.1 hr
    exact (hf j (by simpa using hj)).1
  · rw [e j hj]
    exact (hf j hj).2
/-- Rows in a block of their own. -/
def Rows1 {α : Type} [Inhabited α] (k e : Nat) (R : List Value → α → Prop) (B : Nat) (w : World) (v : Value) (l : List α) : Prop :=
  ∃ rows : List (List Value), rows.length = l.length ∧ (∀ r ∈ rows, r.length = k) ∧ (∀ j, j < l.length → R (rows.getD j []) (l.getD j default)) ∧ w.ownsRow B e k v l.length rows.flatten
theorem Rows1.cell {α : Type} [Inhabited α] {k e : Nat} {R : List Value → α → Prop} {B : Nat} {w : World} {v : Value} {l : List α} (h : Rows1 k e R B w v l) (h0 : 0 < l.length) :
    ∃ g c, v = .slice (some ⟨g, 0, none⟩) l.length c ∧ l.length ≤ c ∧ B ≤ g ∧ g < w.heap.size ∧ (∃ cs, w.heap[g]? = some (.cells cs e (0, 0))) ∧ ∀ j, j < l.length → ∃ cs : List Value, cs.length = k ∧ R cs (l.getD j default) ∧ ∀ i u, cs[i]? = some u → w.cell? ⟨g, j * k + i, none⟩ = some u := by
  obtain ⟨rows, h1, h2, h3, h4⟩ := h
  have h4' := h4
  rcases h4.2 with ⟨hv, hn⟩ | ⟨g, cap, cur, hv, hB, hh, hc, _⟩
  · omega
  · subst hv
    refine ⟨g, cap, rfl, hc, hB, blt hh, ⟨_, hh⟩, fun j hj => ⟨rows.getD j [], ?_, h3 j hj, fun i u hi => ?_⟩⟩
    · exact h2 _ (by simp [List.getD, List.getElem?_eq_getElem (show j < rows.length by omega)])
    · have hil : i < k := by
        rw [← h2 _ (show rows.getD j [] ∈ rows by simp [List.getD, List.getElem?_eq_getElem (show j < rows.length by omega)])]
        exact (List.getElem?_eq_some_iff.1 hi).1
      have := h4'.cells (g := g) rfl (j * k + i) u (by rw [flatten_get k rows j i h2 (by omega) hil]; exact hi)
      rw [Addr.add_lit] at this
      simpa using this
theorem Try.infoO : (Try.prog.info? 49).map (fun i => (i.zero, i.size, i.bytes)) = some (some (.agg #[.int .i64 0, .string ByteArray.empty, .int .i64 0, .slice none 0 0, .bool false, .bool false]), 6, 64) := by kernel_rfl
theorem cloneO_nil (n c : Nat) (w : World) :
    Calls Try.prog 55 #[.slice none n c] w fun e w' => e = .returned (.slice none 0 0) ∧ w' = w := by
  have q22 : ∀ (w : World) (a : Option Addr) (n c n' c' : Nat), (binOp .eql 45 (.slice a n c) (.slice none n' c')).run Try.prog w = .ok (.bool a.isNone) w := fun w a n c n' c' => Lib.run_eql_slice_nil w _ _ a n c n' c' Try.underlying45
  go_enter Try.func55, Try.ntmps55
  go_wp2
  go_ret
  exact ⟨rfl, rfl⟩
set_option maxHeartbeats 2000000 in
set_option maxRecDepth 100000 in
theorem cloneO_some (ad : Addr) (n c : Nat) (xs : List Value) (w : World) (hx : xs.length = n * 6) (hbig : n * 64 ≤ 140737488355328) (hone : ∀ u ∈ xs, u.oneCell' = true) (hc : ∀ j u, xs[j]? = some u → w.cell? (ad.add j) = some u) :
    Calls Try.prog 55 #[.slice (some ad) n c] w fun e w' => ∃ v', e = .returned v' ∧ w'.ownsRow w.heap.size 49 6 v' n xs ∧ Below w.heap.size w w' := by
  obtain ⟨i0, hi, hz0, hz1, hz2⟩ := info_parts Try.infoO
  have q22 : ∀ (w : World) (a : Option Addr) (n c n' c' : Nat), (binOp .eql 45 (.slice a n c) (.slice none n' c')).run Try.prog w = .ok (.bool a.isNone) w := fun w a n c n' c' => Lib.run_eql_slice_nil w _ _ a n c n' c' Try.underlying45
  have A := hid hc
  have O := hid hone
  clear hc hone
  go_enter Try.func55, Try.ntmps55
  go_wp2_with (at_builtin; refine wpList_append_own _ rfl _ _ 45 rfl w.heap.size 49 i0 _ 6 64 Try.underlying45 hi hz0 hz1 hz2 rfl (by decide) _ _ _ rfl (World.ownsRow_made w #[] 0 (Nat.le_refl _) (Nat.zero_le _) rfl) ad n c xs rfl ?qc1 ?qc2 ?qc3 ?qc4 ?qc5 ?qc6 ?_)
  case qc1 => exact hx
  case qc2 => exact fun j u hj => Lib.cell?_alloc_some _ (A.out j u hj)
  case qc3 => exact O.out
  case qc4 => unfold maxLen; omega
  case qc5 => omega
  case qc6 => simp
  intro v' w1 hown hgrow hnil
  go_wp2
  go_ret
  refine ⟨v', rfl, by simpa using hown, ?_⟩
  exact ((Below.refl _ w).alloc (Nat.le_refl _) _).grown hgrow (by simp) (by intro k hk; simp [Value.ownBlock] at hk; omega)
/-- slices.Clone hands the same rows back, in a block of their own. -/
theorem cloneO_any {α : Type} [Inhabited α] {R : List Value → α → Prop} {S : Nat → Prop} (v : Value) (l : List α) (w : World) (h : RowsIn 6 64 R S w v l) (hone : ∀ cs x, R cs x → ∀ u ∈ cs, u.oneCell' = true) :
    Calls Try.prog 55 #[v] w fun e w' => ∃ v', e = .returned v' ∧ Rows1 6 49 R w.heap.size w' v' l ∧ Below w.heap.size w w' := by
  obtain ⟨ao, c, rfl, hl, hc⟩ := RowsIn.cells h (by omega)
  obtain ⟨rows, r1, r2, r3⟩ := rows_pick hc
  cases ao with
  | none =>
    have h0 : l.length = 0 := by
      by_cases h : 0 < l.length
      · obtain ⟨_, b, o, ha, _⟩ := r3 0 h; cases ha
      · omega
    refine (cloneO_nil _ c w).mono fun e w' ⟨he, hw⟩ => ⟨_, he, ⟨rows, r1, r2, fun j hj => (r3 j hj).1, ?_⟩, by rw [hw]; exact Below.refl _ _⟩
    have e0 : rows = [] := List.length_eq_zero_iff.1 (by omega)
    rw [e0, h0]
    exact World.ownsRow_nil _ _ _ _
  | some ad =>
    refine (cloneO_some ad l.length c rows.flatten w (by rw [flatten_len 6 rows r2, r1]) hl.1 (fun u hu => ?_) (fun j u hj => ?_)).mono fun e w' ⟨v', he, hown, hb⟩ => ⟨v', he, ⟨rows, r1, r2, fun j hj => (r3 j hj).1, hown⟩, hb⟩
    · obtain ⟨r, hr, hu2⟩ := List.mem_flatten.1 hu
      obtain ⟨j, hj, e⟩ := List.mem_iff_getElem.1 hr
      have e2 : rows.getD j [] = r := by simp [List.getD, List.getElem?_eq_getElem hj, e]
      exact hone _ _ (by have := (r3 j (by omega)).1; rw [e2] at this; exact this) u hu2
    · have hjl : j < rows.flatten.length := (List.getElem?_eq_some_iff.1 hj).1
      rw [flatten_len 6 rows r2, r1] at hjl
      have hd : j / 6 < l.length := by omega
      have hm : j % 6 < 6 := Nat.mod_lt _ (by decide)
      have ej : j / 6 * 6 + j % 6 = j := by omega
      obtain ⟨_, b, o, ha, _, hcell⟩ := r3 (j / 6) hd
      rw [← ej, flatten_get 6 rows _ _ r2 (by omega) hm] at hj
      cases ha
      have := hcell (j % 6) u hj
      rw [Addr.add_lit]
      rw [← this]
      congr 2
      omega

theorem Try.infoT : (Try.prog.info? 47).map (fun i => (i.zero, i.size, i.bytes)) = some (some (.agg #[.int .i64 0, .int .i64 0, .int .i64 0, .int .i64 0, .slice none 0 0]), 5, 56) := by kernel_rfl
theorem cloneT_nil (n c : Nat) (w : World) :
    Calls Try.prog 26 #[.slice none n c] w fun e w' => e = .returned (.slice none 0 0) ∧ w' = w := by
  have q22 : ∀ (w : World) (a : Option Addr) (n c n' c' : Nat), (binOp .eql 22 (.slice a n c) (.slice none n' c')).run Try.prog w = .ok (.bool a.isNone) w := fun w a n c n' c' => Lib.run_eql_slice_nil w _ _ a n c n' c' Try.underlying22
  go_enter Try.func26, Try.ntmps26
  go_wp2
  go_ret
  exact ⟨rfl, rfl⟩
set_option maxHeartbeats 2000000 in
set_option maxRecDepth 100000 in
theorem cloneT_some (ad : Addr) (n c : Nat) (xs : List Value) (w : World) (hx : xs.length = n * 5) (hbig : n * 56 ≤ 140737488355328) (hone : ∀ u ∈ xs, u.oneCell' = true) (hc : ∀ j u, xs[j]? = some u → w.cell? (ad.add j) = some u) :
    Calls Try.prog 26 #[.slice (some ad) n c] w fun e w' => ∃ v', e = .returned v' ∧ w'.ownsRow w.heap.size 47 5 v' n xs ∧ Below w.heap.size w w' := by
  obtain ⟨i0, hi, hz0, hz1, hz2⟩ := info_parts Try.infoT
  have q22 : ∀ (w : World) (a : Option Addr) (n c n' c' : Nat), (binOp .eql 22 (.slice a n c) (.slice none n' c')).run Try.prog w = .ok (.bool a.isNone) w := fun w a n c n' c' => Lib.run_eql_slice_nil w _ _ a n c n' c' Try.underlying22
  have A := hid hc
  have O := hid hone
  clear hc hone
  go_enter Try.func26, Try.ntmps26
  go_wp2_with (at_builtin; refine wpList_append_own _ rfl _ _ 22 rfl w.heap.size 47 i0 _ 5 56 Try.underlying22 hi hz0 hz1 hz2 rfl (by decide) _ _ _ rfl (World.ownsRow_made w #[] 0 (Nat.le_refl _) (Nat.zero_le _) rfl) ad n c xs rfl ?qc1 ?qc2 ?qc3 ?qc4 ?qc5 ?qc6 ?_)
  case qc1 => exact hx
  case qc2 => exact fun j u hj => Lib.cell?_alloc_some _ (A.out j u hj)
  case qc3 => exact O.out
  case qc4 => unfold maxLen; omega
  case qc5 => omega
  case qc6 => simp
  intro v' w1 hown hgrow hnil
  go_wp2
  go_ret
  refine ⟨v', rfl, by simpa using hown, ?_⟩
  exact ((Below.refl _ w).alloc (Nat.le_refl _) _).grown hgrow (by simp) (by intro k hk; simp [Value.ownBlock] at hk; omega)
/-- slices.Clone hands the same rows back, in a block of their own. -/
theorem cloneT_any {α : Type} [Inhabited α] {R : List Value → α → Prop} {S : Nat → Prop} (v : Value) (l : List α) (w : World) (h : RowsIn 5 56 R S w v l) (hone : ∀ cs x, R cs x → ∀ u ∈ cs, u.oneCell' = true) :
    Calls Try.prog 26 #[v] w fun e w' => ∃ v', e = .returned v' ∧ Rows1 5 47 R w.heap.size w' v' l ∧ Below w.heap.size w w' := by
  obtain ⟨ao, c, rfl, hl, hc⟩ := RowsIn.cells h (by omega)
  obtain ⟨rows, r1, r2, r3⟩ := rows_pick hc
  cases ao with
  | none =>
    have h0 : l.length = 0 := by
      by_cases h : 0 < l.length
      · obtain ⟨_, b, o, ha, _⟩ := r3 0 h; cases ha
      · omega
    refine (cloneT_nil _ c w).mono fun e w' ⟨he, hw⟩ => ⟨_, he, ⟨rows, r1, r2, fun j hj => (r3 j hj).1, ?_⟩, by rw [hw]; exact Below.refl _ _⟩
    have e0 : rows = [] := List.length_eq_zero_iff.1 (by omega)
    rw [e0, h0]
    exact World.ownsRow_nil _ _ _ _
  | some ad =>
    refine (cloneT_some ad l.length c rows.flatten w (by rw [flatten_len 5 rows r2, r1]) hl.1 (fun u hu => ?_) (fun j u hj => ?_)).mono fun e w' ⟨v', he, hown, hb⟩ => ⟨v', he, ⟨rows, r1, r2, fun j hj => (r3 j hj).1, hown⟩, hb⟩
    · obtain ⟨r, hr, hu2⟩ := List.mem_flatten.1 hu
      obtain ⟨j, hj, e⟩ := List.mem_iff_getElem.1 hr
      have e2 : rows.getD j [] = r := by simp [List.getD, List.getElem?_eq_getElem hj, e]
      exact hone _ _ (by have := (r3 j (by omega)).1; rw [e2] at this; exact this) u hu2
    · have hjl : j < rows.flatten.length := (List.getElem?_eq_some_iff.1 hj).1
      rw [flatten_len 5 rows r2, r1] at hjl
      have hd : j / 5 < l.length := by omega
      have hm : j % 5 < 5 := Nat.mod_lt _ (by decide)
      have ej : j / 5 * 5 + j % 5 = j := by omega
      obtain ⟨_, b, o, ha, _, hcell⟩ := r3 (j / 5) hd
      rw [← ej, flatten_get 5 rows _ _ r2 (by omega) hm] at hj
      cases ha
      have := hcell (j % 5) u hj
      rw [Addr.add_lit]
      rw [← this]
      congr 2
      omega

theorem Try.infoW : (Try.prog.info? 54).map (fun i => (i.zero, i.size, i.bytes)) = some (some (.agg #[.int .i64 0, .int .i64 0]), 2, 16) := by kernel_rfl
theorem cloneW_nil (n c : Nat) (w : World) :
    Calls Try.prog 51 #[.slice none n c] w fun e w' => e = .returned (.slice none 0 0) ∧ w' = w := by
  have q22 : ∀ (w : World) (a : Option Addr) (n c n' c' : Nat), (binOp .eql 51 (.slice a n c) (.slice none n' c')).run Try.prog w = .ok (.bool a.isNone) w := fun w a n c n' c' => Lib.run_eql_slice_nil w _ _ a n c n' c' Try.underlying51
  go_enter Try.func51, Try.ntmps51
  go_wp2
  go_ret
  exact ⟨rfl, rfl⟩
set_option maxHeartbeats 2000000 in
set_option maxRecDepth 100000 in
theorem cloneW_some (ad : Addr) (n c : Nat) (xs : List Value) (w : World) (hx : xs.length = n * 2) (hbig : n * 16 ≤ 140737488355328) (hone : ∀ u ∈ xs, u.oneCell' = true) (hc : ∀ j u, xs[j]? = some u → w.cell? (ad.add j) = some u) :
    Calls Try.prog 51 #[.slice (some ad) n c] w fun e w' => ∃ v', e = .returned v' ∧ w'.ownsRow w.heap.size 54 2 v' n xs ∧ Below w.heap.size w w' := by
  obtain ⟨i0, hi, hz0, hz1, hz2⟩ := info_parts Try.infoW
  have q22 : ∀ (w : World) (a : Option Addr) (n c n' c' : Nat), (binOp .eql 51 (.slice a n c) (.slice none n' c')).run Try.prog w = .ok (.bool a.isNone) w := fun w a n c n' c' => Lib.run_eql_slice_nil w _ _ a n c n' c' Try.underlying51
  have A := hid hc
  have O := hid hone
  clear hc hone
  go_enter Try.func51, Try.ntmps51
  go_wp2_with (at_builtin; refine wpList_append_own _ rfl _ _ 51 rfl w.heap.size 54 i0 _ 2 16 Try.underlying51 hi hz0 hz1 hz2 rfl (by decide) _ _ _ rfl (World.ownsRow_made w #[] 0 (Nat.le_refl _) (Nat.zero_le _) rfl) ad n c xs rfl ?qc1 ?qc2 ?qc3 ?qc4 ?qc5 ?qc6 ?_)
  case qc1 => exact hx
  case qc2 => exact fun j u hj => Lib.cell?_alloc_some _ (A.out j u hj)
  case qc3 => exact O.out
  case qc4 => unfold maxLen; omega
  case qc5 => omega
  case qc6 => simp
  intro v' w1 hown hgrow hnil
  go_wp2
  go_ret
  refine ⟨v', rfl, by simpa using hown, ?_⟩
  exact ((Below.refl _ w).alloc (Nat.le_refl _) _).grown hgrow (by simp) (by intro k hk; simp [Value.ownBlock] at hk; omega)
/-- slices.Clone hands the same rows back, in a block of their own. -/
theorem cloneW_any {α : Type} [Inhabited α] {R : List Value → α → Prop} {S : Nat → Prop} (v : Value) (l : List α) (w : World) (h : RowsIn 2 16 R S w v l) (hone : ∀ cs x, R cs x → ∀ u ∈ cs, u.oneCell' = true) :
    Calls Try.prog 51 #[v] w fun e w' => ∃ v', e = .returned v' ∧ Rows1 2 54 R w.heap.size w' v' l ∧ Below w.heap.size w w' := by
  obtain ⟨ao, c, rfl, hl, hc⟩ := RowsIn.cells h (by omega)
  obtain ⟨rows, r1, r2, r3⟩ := rows_pick hc
  cases ao with
  | none =>
    have h0 : l.length = 0 := by
      by_cases h : 0 < l.length
      · obtain ⟨_, b, o, ha, _⟩ := r3 0 h; cases ha
      · omega
    refine (cloneW_nil _ c w).mono fun e w' ⟨he, hw⟩ => ⟨_, he, ⟨rows, r1, r2, fun j hj => (r3 j hj).1, ?_⟩, by rw [hw]; exact Below.refl _ _⟩
    have e0 : rows = [] := List.length_eq_zero_iff.1 (by omega)
    rw [e0, h0]
    exact World.ownsRow_nil _ _ _ _
  | some ad =>
    refine (cloneW_some ad l.length c rows.flatten w (by rw [flatten_len 2 rows r2, r1]) hl.1 (fun u hu => ?_) (fun j u hj => ?_)).mono fun e w' ⟨v', he, hown, hb⟩ => ⟨v', he, ⟨rows, r1, r2, fun j hj => (r3 j hj).1, hown⟩, hb⟩
    · obtain ⟨r, hr, hu2⟩ := List.mem_flatten.1 hu
      obtain ⟨j, hj, e⟩ := List.mem_iff_getElem.1 hr
      have e2 : rows.getD j [] = r := by simp [List.getD, List.getElem?_eq_getElem hj, e]
      exact hone _ _ (by have := (r3 j (by omega)).1; rw [e2] at this; exact this) u hu2
    · have hjl : j < rows.flatten.length := (List.getElem?_eq_some_iff.1 hj).1
      rw [flatten_len 2 rows r2, r1] at hjl
      have hd : j / 2 < l.length := by omega
      have hm : j % 2 < 2 := Nat.mod_lt _ (by decide)
      have ej : j / 2 * 2 + j % 2 = j := by omega
      obtain ⟨_, b, o, ha, _, hcell⟩ := r3 (j / 2) hd
      rw [← ej, flatten_get 2 rows _ _ r2 (by omega) hm] at hj
      cases ha
      have := hcell (j % 2) u hj
      rw [Addr.add_lit]
      rw [← this]
      congr 2
      omega
/-- strings.Clone: the same text. -/
theorem sclone_is (s : ByteArray) (w : World) (hs : s.size ≤ 281474976710656) : Calls Try.prog 56 #[.string s] w fun e w' => e = .returned (.string s) ∧ Below w.heap.size w w' := by
  go_enter Try.func56, Try.ntmps56
  go_wp2_with (go_at_call 79; refine (Try.stringslite_Clone _ _ hs).mono ?_; rintro e w' ⟨rfl, hb⟩)
  go_ret
  exact ⟨rfl, hb⟩
/-- The operations of which the first k have lists of their own. -/
def CpI (S : Nat → Prop) (B g : Nat) (w : World) (l : List MOp) (k : Nat) : Prop :=
  ∀ j, j < l.length → ∃ lv, (∀ i u, ([.int .i64 (l.getD j default).kind, .string (l.getD j default).key, .int .i64 (l.getD j default).value, lv, .bool (l.getD j default).has, .bool (l.getD j default).nl] : List Value)[i]? = some u → w.cell? ⟨g, j * 6 + i, none⟩ = some u) ∧ IntsIn (fun b => if j < k then (B ≤ b ∧ b ≠ g) ∧ Soft w b else S b ∧ b < B) w lv (l.getD j default).list
theorem CpI.step {S : Nat → Prop} {B g : Nat} {w w3 : World} {l : List MOp} {k : Nat} {lv' : Value} (h : CpI S B g w l k) (hb : Below w.heap.size w w3) (hg : g < w.heap.size) (hB : B ≤ g) (hk : k < l.length) (hl : IntsIn (fun b => w.heap.size ≤ b ∧ Soft w3 b) w3 lv' (l.getD k default).list) : CpI S B g (w3.setCell ⟨g, k * 6 + 3, none⟩ lv') l (k + 1) := fun j hj => by
  obtain ⟨lv, h1, h2⟩ := h j hj
  have hblk : ∀ b, b ≠ g → (w3.setCell ⟨g, k * 6 + 3, none⟩ lv').heap[b]? = w3.heap[b]? := fun b hne => set_ne hne
  by_cases e : j = k
  · subst e
    refine ⟨lv', fun i u hi => ?_, hl.keep (fun b hb2 _ => hblk b (by have := hb2.1; omega)) (fun b _ hb2 => by have := hb2.1; rw [if_pos (by omega)]; exact ⟨⟨by omega, by omega⟩, hb2.2.keep (hblk b (by omega))⟩)⟩
    by_cases e3 : i = 3
    · subst e3
      have hc := h1 3 _ rfl
      have hu : lv' = u := by simpa using hi
      rw [← hu]
      exact World.cell?_setCell_same _ _ _ (((hb.cell (p := ⟨g, j * 6 + 3, none⟩) hg).trans hc))
    · have hi2 : ([.int .i64 (l.getD j default).kind, .string (l.getD j default).key, .int .i64 (l.getD j default).value, lv, .bool (l.getD j default).has, .bool (l.getD j default).nl] : List Value)[i]? = some u := by
        match i, e3, hi with
        | 0, _, hi => exact hi
        | 1, _, hi => exact hi
        | 2, _, hi => exact hi
        | 4, _, hi => exact hi
        | 5, _, hi => exact hi
        | _ + 6, _, hi => simp at hi
      refine (World.cell?_setCell_other _ _ _ _ (fun c => e3 (by have := congrArg Addr.off c; simp only [] at this; omega))).trans ((hb.cell (p := ⟨g, j * 6 + i, none⟩) hg).trans (h1 i u hi2))
  · refine ⟨lv, fun i u hi => ?_, h2.keep (fun b hb2 hbl => ?_) (fun b hbl hb2 => ?_)⟩
    · have hi6 : i < 6 := by
        have := (List.getElem?_eq_some_iff.1 hi).1
        simpa using this
      refine (World.cell?_setCell_other _ _ _ _ (fun c => by have := congrArg Addr.off c; simp only [] at this; omega)).trans ((hb.cell (p := ⟨g, j * 6 + i, none⟩) hg).trans (h1 i u hi))
    · have hne : b ≠ g := by
        dsimp only at hb2
        by_cases hjk : j < k
        · rw [if_pos hjk] at hb2
          exact hb2.1.2
        · rw [if_neg hjk] at hb2
          omega
      exact (hblk b hne).trans (hb.block b hbl)
    · try dsimp only at hb2
      by_cases hjk : j < k
      · rw [if_pos hjk] at hb2
        rw [if_pos (by omega)]
        exact ⟨hb2.1, hb2.2.keep ((hblk b hb2.1.2).trans (hb.block b ‹_›))⟩
      · rw [if_neg hjk] at hb2
        rw [if_neg (by omega)]
        exact hb2
theorem opRow_one {S : Nat → Prop} {w : World} (cs : List Value) (x : MOp) (h : OpRow S w cs x) : ∀ u ∈ cs, u.oneCell' = true := by
  obtain ⟨lv, rfl, ⟨ao, c, rfl, _⟩⟩ := h
  intro u hu
  simp only [List.mem_cons, List.not_mem_nil, or_false] at hu
  rcases hu with rfl | rfl | rfl | rfl | rfl | rfl <;> rfl
theorem ints_lt {S : Nat → Prop} {w : World} {v : Value} {l : List Int} (h : IntsIn S w v l) : IntsIn (fun b => S b ∧ b < w.heap.size) w v l := h.keep (fun _ _ _ => rfl) (fun b hb hs => ⟨hs, hb⟩)
set_option maxHeartbeats 4000000 in
set_option maxRecDepth 100000 in
theorem copy_is {S : Nat → Prop} (v : Value) (l : List MOp) (w : World) (h : OpsIn S w v l) (hks : ∀ o ∈ l, o.key.size ≤ 281474976710656) :
    Calls Try.prog 30 #[v] w fun e w' => ∃ v', e = .returned v' ∧ OpsOwn (fun b => w.heap.size ≤ b) w' v' l ∧ Below w.heap.size w w' := by
  have hlen : l.length * 64 ≤ 140737488355328 := by obtain ⟨_, _, _, h, _⟩ := h; exact h.1
  have CL := hid (cloneO_any (α := MOp) v l w h opRow_one)
  have HKS := hid hks
  clear h hks
  by_cases h0 : 0 < l.length
  · have hli : (l.length : Int) ≤ 2199023255552 := by omega
    go_enter Try.func30, Try.ntmps30
    go_wp2_with (go_at_call 55; refine CL.out.mono ?_; rintro e w1 ⟨v1, rfl, h1, b1⟩; obtain ⟨g, c, rfl, hc, hB, hgl, ⟨cs0, hg0⟩, hrow⟩ := h1.cell h0; have HR := hid hrow; have HG0 := hid hg0; have B1 := hid b1; clear h1 hrow hg0 b1 CL)
    have I0 : Hid (CpI S w.heap.size g w1 l 0) := fun j hj => by
      obtain ⟨cs, e1, ⟨lv, e2, e3⟩, e4⟩ := HR.out j hj
      subst e2
      exact ⟨lv, e4, (ints_lt e3).keep (keeps_below B1.out) (fun b _ hb => by rw [if_neg (Nat.not_lt_zero _)]; exact hb)⟩
    have F0 : Hid (∀ o, w1.frozen? ⟨g, o, none⟩ = false) := fun o => Lib.frozen_of_heap HG0.out o
    clear HR HG0
    go_loopg [4, 9] l.length (fun gg _ i wr => ∃ k : Nat, k ≤ l.length ∧ l.length - k ≤ gg ∧ i = .int .i64 k ∧ Aside (Below w.heap.size w wr) ∧ Aside (CpI S w.heap.size g wr l k) ∧ Aside (∀ o, wr.frozen? ⟨g, o, none⟩ = false) ∧ Aside (g < wr.heap.size))
    case atStart => exact ⟨0, Nat.zero_le _, by omega, rfl, B1.out, I0.out, F0.out, hgl⟩
    case round =>
      clear I0 F0 B1
      obtain ⟨k, hk, hgk, rfl, BR, IR, FR, GL⟩ := hrel
      by_cases hlt : k < l.length
      · have hlti : (k : Int) < l.length := by omega
        obtain ⟨lv, hcs, hints⟩ := IR.out k hlt
        have c1 := hcs 1 _ rfl
        have c3 := hcs 3 _ rfl
        have hkey : (l.getD k default).key.size ≤ 281474976710656 := HKS.out _ (by simp [List.getD, List.getElem?_eq_getElem hlt])
        obtain ⟨la, lc, rfl, _⟩ := id hints
        have SC := hid (fun W => sclone_is (l.getD k default).key W hkey)
        have HIN := hid hints
        have hgl2 : g < wr.heap.size := GL.out
        have hkc : (k : Int) < c := by omega
        obtain ⟨ky, hky⟩ : ∃ ky, (l.getD k default).key = ky := ⟨_, rfl⟩
        have HKY := hid hky
        rw [hky] at c1 SC
        obtain ⟨lk, hlk⟩ : ∃ lk, (l.getD k default).list = lk := ⟨_, rfl⟩
        have HLK := hid hlk
        rw [hlk] at c3 HIN
        clear hcs hints hkey hky hlk
        go_wp2_with (go_at_call 56; refine (SC.out _).mono ?_; rintro e w2 ⟨rfl, b2⟩; have B2 := hid b2; have d1 : w2.cell? ⟨g, k * 6 + 1, none⟩ = some (.string ky) := (b2.cell (p := ⟨g, k * 6 + 1, none⟩) hgl2).trans c1; have d3 := (b2.cell (p := ⟨g, k * 6 + 3, none⟩) hgl2).trans c3; have f1 : w2.frozen? ⟨g, k * 6 + 1, none⟩ = false := (b2.frozen (p := ⟨g, k * 6 + 1, none⟩) hgl2).trans (FR.out _); clear b2)
        rw [setCell_self d1]
        have IK : Hid (IntsIn (fun b => if k < k then (w.heap.size ≤ b ∧ b ≠ g) ∧ Soft wr b else S b ∧ b < w.heap.size) w2 (.slice la lk.length lc) lk) := HIN.out.keep (keeps_below B2.out) (fun _ _ h => h)
        clear c1 d1 f1
        go_wp2_with fail
        go_at_call 50
        refine (cloneInts_soft _ lk _ IK.out).mono ?_
        rintro e w3 ⟨v3, rfl, h3, b3⟩
        have hsz2 := B2.out.size
        have B3 : Hid (Below wr.heap.size wr w3) := B2.out.trans (b3.mono hsz2)
        have f3 : w3.frozen? ⟨g, k * 6 + 3, none⟩ = false := (B3.out.frozen (p := ⟨g, k * 6 + 3, none⟩) hgl2).trans (FR.out _)
        have e3 := (B3.out.cell (p := ⟨g, k * 6 + 3, none⟩) hgl2).trans c3
        obtain ⟨na, nc, rfl, _⟩ := id h3
        have I3 : Hid (CpI S w.heap.size g (w3.setCell ⟨g, k * 6 + 3, none⟩ (.slice na lk.length nc)) l (k + 1)) := IR.out.step B3.out hgl2 hB hlt (by rw [show (l.getD k default).list = lk from HLK.out]; exact h3.keep (fun _ _ _ => rfl) (fun b _ hb => ⟨by have := hb.1; omega, hb.2⟩))
        have BN : Hid (Below w.heap.size w (w3.setCell ⟨g, k * 6 + 3, none⟩ (.slice na lk.length nc))) := (BR.out.trans (B3.out.mono BR.out.size)).setCell hB _
        have FN : Hid (∀ o, (w3.setCell ⟨g, k * 6 + 3, none⟩ (.slice na lk.length nc)).frozen? ⟨g, o, none⟩ = false) := fun o => by
          show World.frozen? _ _ = false
          rw [World.frozen?_setCell]
          exact (B3.out.frozen (p := ⟨g, o, none⟩) hgl2).trans (FR.out o)
        have GN : Hid (g < (w3.setCell ⟨g, k * 6 + 3, none⟩ (.slice na lk.length nc)).heap.size) := by
          show g < _
          have := B3.out.size
          simp [World.setCell]
          omega
        clear h3 b3 c3 d3 hsz2
        go_wp2_with fail
        go_roundg (l.length - (k + 1))
        case measure => omega
        case rel => exact ⟨k + 1, by omega, by omega, by go_num, BN.out, I3.out, FN.out, GN.out⟩
      · have hke : k = l.length := by omega
        have FIN : Hid (OpsOwn (fun b => w.heap.size ≤ b) wr (.slice (some ⟨g, 0, none⟩) l.length c) l) := ⟨_, c, rfl, ⟨hlen, hc⟩, fun _ => ⟨g, rfl, hB, FR.out, fun j hj => by
          obtain ⟨lv, q1, q2⟩ := IR.out j hj
          exact ⟨_, rfl, ⟨lv, rfl, q2.keep (fun _ _ _ => rfl) (fun b _ hb => by rw [if_pos (by omega)] at hb; exact hb)⟩, q1⟩⟩⟩
        clear hke
        go_wp2_with fail
        go_ret
        exact ⟨_, rfl, FIN.out, BR.out⟩
  · have hl0 : l = [] := List.length_eq_zero_iff.1 (by omega)
    subst hl0
    go_enter Try.func30, Try.ntmps30
    go_wp2_with (go_at_call 55; refine CL.out.mono ?_; rintro e w1 ⟨v1, rfl, ⟨rows, _, _, _, h1⟩, b1⟩; obtain ⟨a1, c1, rfl⟩ := own_slice h1; have B1 := hid b1; clear h1 b1 CL)
    go_loopg [4, 9] 0 (fun gg _ i wr => i = .int .i64 0 ∧ Aside (Below w.heap.size w wr))
    case atStart => exact ⟨rfl, B1.out⟩
    case round =>
      obtain ⟨rfl, BR⟩ := hrel
      go_wp2_with fail
      go_ret
      exact ⟨_, rfl, ⟨_, _, rfl, ⟨by simp, by simp⟩, fun h => absurd h (by simp)⟩, BR.out⟩
end Go.Proofs.Ytnfbcmnlloipiaa
