/-
  tells: does an operation read what there is.
-/
import Derived.Test.YtjeheknhpfkaiaaDoorEq
namespace Go.Proofs.YtjeheknhpfkaiaaDoor
set_option linter.unusedVariables false
set_option linter.unusedSimpArgs false
open Go.RowKit Go.Lib Go.Maps

theorem below_drewN {B : Nat} {w w' : World} (h : Below B w w') (q : Nat) : Below B w (w'.drewN q) := ⟨h.os, h.tape, h.output, h.size, h.block⟩
theorem own_cells {B : Nat} {w : World} {v : Value} {l : List Int} (h : w.ownsRow B 3 1 v l.length (l.map (Value.int .i64))) : ∃ a c, v = .slice a l.length c ∧ IntCells w a l l.length := by
  rcases h.2 with ⟨hv, hn⟩ | ⟨g, cap, cur, hv, hB, hh, hr⟩
  · exact ⟨none, 0, by rw [hv, hn], fun j hj => by omega⟩
  · refine ⟨_, cap, hv, fun j hj => ⟨g, 0, rfl, ?_⟩⟩
    subst hv
    have := World.ownsRow.cellAt h j (by omega)
    rw [Nat.zero_add, this]
    simp [hj, List.getD]
set_option maxHeartbeats 2000000 in
theorem tells_has (w : World) (p : Value) (o : MOp) (la : Option Addr) (ln lc : Nat) (ho : o.has = false) :
    Calls Tryd.prog 23 #[p, opV o (.slice la ln lc)] w fun e w' => e = .returned (.bool true) ∧ Below w.heap.size w w' := by
  obtain ⟨ok, os, ox, ol, oh, on⟩ := o
  unfold opV
  simp only [MOp.kind, MOp.key, MOp.value, MOp.list, MOp.has, MOp.nl] at *
  subst ho
  go_enter Tryd.func23, Tryd.ntmps23
  go_wp2_with fail
  go_ret
  exact ⟨rfl, below_box w _⟩
set_option maxHeartbeats 2000000 in
theorem tells_none (w : World) (p : Value) (o : MOp) (la : Option Addr) (ln lc : Nat) (ho : o.has = true) (h2 : o.kind ≠ 2) (h4 : o.kind ≠ 4) :
    Calls Tryd.prog 23 #[p, opV o (.slice la ln lc)] w fun e w' => e = .returned (.bool true) ∧ Below w.heap.size w w' := by
  obtain ⟨ok, os, ox, ol, oh, on⟩ := o
  unfold opV
  simp only [MOp.kind, MOp.key, MOp.value, MOp.list, MOp.has, MOp.nl] at *
  subst ho
  have e1 : (ok == 2) = false := by simp [h2]
  have e3 : (ok == 4) = false := by simp [h4]
  go_enter Tryd.func23, Tryd.ntmps23
  go_wp2_with fail
  go_ret
  exact ⟨rfl, below_box w _⟩
set_option maxHeartbeats 2000000 in
theorem tells_read (B : Nat) (w : World) (sb lb rb : Nat) (F : Nat → Prop) (n : Nat) (L : List MOp) (h : St B w sb lb rb F n L) (o : MOp) (lv : Value) (hl : IntsIn Any w lv o.list) (ho : o.has = true) (h2 : o.kind = 2) (hks : o.key.size ≤ 281474976710656) :
    Calls Tryd.prog 23 #[.pointer (some ⟨sb, 0, none⟩), opV o lv] w fun e w' => e = .returned (.bool (sameB o.list (lstM L o.key))) ∧ Below w.heap.size w w' := by
  have hk : o.key.size ≤ maxLen := key_max hks
  obtain ⟨S, hS⟩ := h.ls
  obtain ⟨f, hm, hf⟩ := hS.map
  have c0 := h.c0
  have hsz := World.block_lt_of_cell? _ _ c0
  have hlook : ∀ (w1 : World), w1.heap[lb]? = w.heap[lb]? → (Instr.lookup 46 (.map (some lb)) (.string o.key) false).run Tryd.prog w1 = .ok (S o.key) w1 := fun w1 h1 => by
    have q := (hm.same h1).look keys9 Tryd.underlying46 (zeroL w1) (key9 o.key hk)
    rw [q, hf]
    by_cases e : lstM L o.key = []
    · rw [if_pos e, hS.nil _ e]
      rfl
    · rw [if_neg e]
      rfl
  obtain ⟨sa, sc, hsl, hcl⟩ := own_cells (hS.own o.key)
  obtain ⟨a1, c1, rfl, ⟨b1, g1⟩, k1⟩ := hl.cells
  have HL := hid hlook
  have HM := hid hm
  rw [hsl] at HL
  obtain ⟨N, hN⟩ : ∃ N, (lstM L o.key).length = N := ⟨_, rfl⟩
  obtain ⟨M, hM⟩ : ∃ M, o.list.length = M := ⟨_, rfl⟩
  rw [hN] at HL hcl
  rw [hM] at k1 b1 g1 ⊢
  have HN := hid hN
  have HMM := hid hM
  have HC := hid hcl
  have HK := hid k1
  clear h hS hlook hm hf hl hcl k1 hN hM hsl
  obtain ⟨ok, os, ox, ol, oh, on⟩ := o
  unfold opV
  simp only [MOp.kind, MOp.key, MOp.value, MOp.list, MOp.has, MOp.nl] at *
  subst ho h2
  go_enter Tryd.func23, Tryd.ntmps23
  go_wp2_with fail
  obtain ⟨W, hW⟩ : ∃ W, w.alloc (.cells #[.int .i64 2, .string os, .int .i64 ox, .slice a1 M c1, .bool true, .bool on] 56) = W := ⟨_, rfl⟩
  have BW : Hid (Below w.heap.size w W) := by rw [← hW]; exact below_box w _
  have HBx : Hid (W.heap[w.heap.size]? = some (.cells #[.int .i64 2, .string os, .int .i64 ox, .slice a1 M c1, .bool true, .bool on] 56)) := by rw [← hW]; show (w.alloc _).heap[w.heap.size]? = _; rw [alloc_at, if_pos rfl]
  rw [hW]
  clear hW
  have d0 : W.cell? ⟨sb, 0, none⟩ = some (.map (some lb)) := (BW.out.cell (p := ⟨sb, 0, none⟩) hsz).trans c0
  have d1 : W.cell? ⟨w.heap.size, 1, none⟩ = some (.string os) := Lib.cell_of_heap HBx.out 1
  have d3 : W.cell? ⟨w.heap.size, 3, none⟩ = some (.slice a1 M c1) := Lib.cell_of_heap HBx.out 3
  have hlW : W.heap[lb]? = w.heap[lb]? := BW.out.block _ HM.out.lt
  have q0 := HL.out W hlW
  have q1 := fun k => HL.out (W.drewN k) hlW
  have QE : Hid (∀ k, ∃ q, Calls Tryd.prog 33 #[.slice a1 M c1, .slice sa N sc] (W.drewN k) fun e w' => e = .returned (.bool (sameB ol (lstM L os))) ∧ ∃ q, w' = (W.drewN k).drewN q) := fun k => ⟨0, slicesEqual_cells a1 sa c1 sc M N ol (lstM L os) _ HMM.out HN.out (by omega) (HK.out.later (below_drewN BW.out k)) (HC.out.later (below_drewN BW.out k))⟩
  clear hlW
  go_quiet ((go_at_call 33; exact Calls.quiet_of (QE.out _).choose_spec))
  go_wp2_with fail
  go_ret
  exact ⟨rfl, below_drewN BW.out _⟩
set_option maxHeartbeats 2000000 in
theorem tells_get (B : Nat) (w : World) (sb lb rb : Nat) (F : Nat → Prop) (n : Nat) (L : List MOp) (h : St B w sb lb rb F n L) (o : MOp) (la : Option Addr) (ln lc : Nat) (ho : o.has = true) (h2 : o.kind = 4) (hks : o.key.size ≤ 281474976710656) :
    Calls Tryd.prog 23 #[.pointer (some ⟨sb, 0, none⟩), opV o (.slice la ln lc)] w fun e w' => e = .returned (.bool (gets (regM L o.key) o)) ∧ Below w.heap.size w w' := by
  have hk : o.key.size ≤ maxLen := key_max hks
  obtain ⟨f, hm, hf⟩ := h.rs
  have c0 := h.c1
  have hsz := World.block_lt_of_cell? _ _ c0
  have hlook : ∀ (w1 : World), w1.heap[rb]? = w.heap[rb]? → (Instr.lookup 48 (.map (some rb)) (.string o.key) false).run Tryd.prog w1 = .ok (rgVal (regM L o.key)) w1 := fun w1 h1 => by
    have q := (hm.same h1).look keys9 Tryd.underlying48 (zeroR w1) (key9 o.key hk)
    rw [q, hf]
    cases regM L o.key <;> rfl
  have HL := hid hlook
  have HM := hid hm
  clear h hlook hm hf
  obtain ⟨ok, os, ox, ol, oh, on⟩ := o
  unfold opV
  simp only [MOp.kind, MOp.key, MOp.value, MOp.list, MOp.has, MOp.nl] at *
  subst ho h2
  unfold rgVal at HL
  obtain ⟨x, hx⟩ : ∃ x, rgV (regM L os) = x := ⟨_, rfl⟩
  obtain ⟨t, ht⟩ : ∃ t, (regM L os).isSome = t := ⟨_, rfl⟩
  have HG : Hid (gets (regM L os) (4, os, ox, ol, true, on) = ((t != on) && (on || x == ox))) := by unfold gets; rw [hx, ht]; rfl
  rw [hx, ht] at HL
  clear hx ht
  rw [HG.out]
  cases t with
  | true =>
    cases on with
    | true =>
        go_enter Tryd.func23, Tryd.ntmps23
        go_wp2_with fail
        obtain ⟨W, hW⟩ : ∃ W, w.alloc (.cells #[.int .i64 4, .string os, .int .i64 ox, .slice la ln lc, .bool true, .bool true] 56) = W := ⟨_, rfl⟩
        have BW : Hid (Below w.heap.size w W) := by rw [← hW]; exact below_box w _
        have HBx : Hid (W.heap[w.heap.size]? = some (.cells #[.int .i64 4, .string os, .int .i64 ox, .slice la ln lc, .bool true, .bool true] 56)) := by rw [← hW]; show (w.alloc _).heap[w.heap.size]? = _; rw [alloc_at, if_pos rfl]
        rw [hW]
        clear hW
        have hwl : w.heap.size < W.heap.size := blt HBx.out
        have hwl2 : sb < W.heap.size := by omega
        have d0 : W.cell? ⟨sb, 1, none⟩ = some (.map (some rb)) := (BW.out.cell (p := ⟨sb, 1, none⟩) hsz).trans c0
        have d1 : W.cell? ⟨w.heap.size, 1, none⟩ = some (.string os) := Lib.cell_of_heap HBx.out 1
        have d2 : W.cell? ⟨w.heap.size, 2, none⟩ = some (.int .i64 ox) := Lib.cell_of_heap HBx.out 2
        have d5 : W.cell? ⟨w.heap.size, 5, none⟩ = some (.bool true) := Lib.cell_of_heap HBx.out 5
        have hlW : W.heap[rb]? = w.heap[rb]? := BW.out.block _ HM.out.lt
        have q0 := HL.out W hlW
        have q1 := HL.out W.drew hlW
        have q3 := fun o => HL.out (W.alloc o).drew ((below_box W o).block _ (Nat.lt_of_lt_of_le HM.out.lt BW.out.size) |>.trans hlW)
        clear hlW
        go_region
        all_goals (try go_wp2_with fail)
        all_goals (go_ret; exact ⟨rfl, below_drewN (q := 1) (BW.out.trans ((below_box W _).mono (Nat.le_of_lt hwl)))⟩)
    | false =>
        go_enter Tryd.func23, Tryd.ntmps23
        go_wp2_with fail
        obtain ⟨W, hW⟩ : ∃ W, w.alloc (.cells #[.int .i64 4, .string os, .int .i64 ox, .slice la ln lc, .bool true, .bool false] 56) = W := ⟨_, rfl⟩
        have BW : Hid (Below w.heap.size w W) := by rw [← hW]; exact below_box w _
        have HBx : Hid (W.heap[w.heap.size]? = some (.cells #[.int .i64 4, .string os, .int .i64 ox, .slice la ln lc, .bool true, .bool false] 56)) := by rw [← hW]; show (w.alloc _).heap[w.heap.size]? = _; rw [alloc_at, if_pos rfl]
        rw [hW]
        clear hW
        have hwl : w.heap.size < W.heap.size := blt HBx.out
        have hwl2 : sb < W.heap.size := by omega
        have d0 : W.cell? ⟨sb, 1, none⟩ = some (.map (some rb)) := (BW.out.cell (p := ⟨sb, 1, none⟩) hsz).trans c0
        have d1 : W.cell? ⟨w.heap.size, 1, none⟩ = some (.string os) := Lib.cell_of_heap HBx.out 1
        have d2 : W.cell? ⟨w.heap.size, 2, none⟩ = some (.int .i64 ox) := Lib.cell_of_heap HBx.out 2
        have d5 : W.cell? ⟨w.heap.size, 5, none⟩ = some (.bool false) := Lib.cell_of_heap HBx.out 5
        have hlW : W.heap[rb]? = w.heap[rb]? := BW.out.block _ HM.out.lt
        have q0 := HL.out W hlW
        have q1 := HL.out W.drew hlW
        have q3 := fun o => HL.out (W.alloc o).drew ((below_box W o).block _ (Nat.lt_of_lt_of_le HM.out.lt BW.out.size) |>.trans hlW)
        clear hlW
        go_region
        all_goals (try go_wp2_with fail)
        all_goals (go_ret; exact ⟨rfl, below_drewN (q := 1) (BW.out.trans ((below_box W _).mono (Nat.le_of_lt hwl)))⟩)
  | false =>
    cases on with
    | true =>
        go_enter Tryd.func23, Tryd.ntmps23
        go_wp2_with fail
        obtain ⟨W, hW⟩ : ∃ W, w.alloc (.cells #[.int .i64 4, .string os, .int .i64 ox, .slice la ln lc, .bool true, .bool true] 56) = W := ⟨_, rfl⟩
        have BW : Hid (Below w.heap.size w W) := by rw [← hW]; exact below_box w _
        have HBx : Hid (W.heap[w.heap.size]? = some (.cells #[.int .i64 4, .string os, .int .i64 ox, .slice la ln lc, .bool true, .bool true] 56)) := by rw [← hW]; show (w.alloc _).heap[w.heap.size]? = _; rw [alloc_at, if_pos rfl]
        rw [hW]
        clear hW
        have hwl : w.heap.size < W.heap.size := blt HBx.out
        have hwl2 : sb < W.heap.size := by omega
        have d0 : W.cell? ⟨sb, 1, none⟩ = some (.map (some rb)) := (BW.out.cell (p := ⟨sb, 1, none⟩) hsz).trans c0
        have d1 : W.cell? ⟨w.heap.size, 1, none⟩ = some (.string os) := Lib.cell_of_heap HBx.out 1
        have d2 : W.cell? ⟨w.heap.size, 2, none⟩ = some (.int .i64 ox) := Lib.cell_of_heap HBx.out 2
        have d5 : W.cell? ⟨w.heap.size, 5, none⟩ = some (.bool true) := Lib.cell_of_heap HBx.out 5
        have hlW : W.heap[rb]? = w.heap[rb]? := BW.out.block _ HM.out.lt
        have q0 := HL.out W hlW
        have q1 := HL.out W.drew hlW
        have q3 := fun o => HL.out (W.alloc o).drew ((below_box W o).block _ (Nat.lt_of_lt_of_le HM.out.lt BW.out.size) |>.trans hlW)
        clear hlW
        go_region
        all_goals (try go_wp2_with fail)
        all_goals (go_ret; exact ⟨rfl, below_drewN (q := 1) (BW.out.trans ((below_box W _).mono (Nat.le_of_lt hwl)))⟩)
    | false =>
        go_enter Tryd.func23, Tryd.ntmps23
        go_wp2_with fail
        obtain ⟨W, hW⟩ : ∃ W, w.alloc (.cells #[.int .i64 4, .string os, .int .i64 ox, .slice la ln lc, .bool true, .bool false] 56) = W := ⟨_, rfl⟩
        have BW : Hid (Below w.heap.size w W) := by rw [← hW]; exact below_box w _
        have HBx : Hid (W.heap[w.heap.size]? = some (.cells #[.int .i64 4, .string os, .int .i64 ox, .slice la ln lc, .bool true, .bool false] 56)) := by rw [← hW]; show (w.alloc _).heap[w.heap.size]? = _; rw [alloc_at, if_pos rfl]
        rw [hW]
        clear hW
        have hwl : w.heap.size < W.heap.size := blt HBx.out
        have hwl2 : sb < W.heap.size := by omega
        have d0 : W.cell? ⟨sb, 1, none⟩ = some (.map (some rb)) := (BW.out.cell (p := ⟨sb, 1, none⟩) hsz).trans c0
        have d1 : W.cell? ⟨w.heap.size, 1, none⟩ = some (.string os) := Lib.cell_of_heap HBx.out 1
        have d2 : W.cell? ⟨w.heap.size, 2, none⟩ = some (.int .i64 ox) := Lib.cell_of_heap HBx.out 2
        have d5 : W.cell? ⟨w.heap.size, 5, none⟩ = some (.bool false) := Lib.cell_of_heap HBx.out 5
        have hlW : W.heap[rb]? = w.heap[rb]? := BW.out.block _ HM.out.lt
        have q0 := HL.out W hlW
        have q1 := HL.out W.drew hlW
        have q3 := fun o => HL.out (W.alloc o).drew ((below_box W o).block _ (Nat.lt_of_lt_of_le HM.out.lt BW.out.size) |>.trans hlW)
        clear hlW
        go_region
        all_goals (try go_wp2_with fail)
        all_goals (go_ret; exact ⟨rfl, below_drewN (q := 1) (BW.out.trans ((below_box W _).mono (Nat.le_of_lt hwl)))⟩)
/-- An operation reads what there is, or nothing. -/
theorem tells_is (B : Nat) (w : World) (sb lb rb : Nat) (F : Nat → Prop) (n : Nat) (L : List MOp) (h : St B w sb lb rb F n L) (o : MOp) (lv : Value) (hl : IntsIn Any w lv o.list) (hks : o.key.size ≤ 281474976710656) :
    Calls Tryd.prog 23 #[.pointer (some ⟨sb, 0, none⟩), opV o lv] w fun e w' => e = .returned (.bool (rightM L o)) ∧ Below w.heap.size w w' := by
  have hl0 := hl
  obtain ⟨la, lc, rfl, _, _⟩ := hl0.cells
  unfold rightM
  cases hh : o.has with
  | false => exact tells_has w _ o la _ lc hh
  | true =>
    simp only [Bool.not_true, Bool.false_or]
    by_cases h2 : o.kind = 2
    · rw [if_pos h2]
      exact tells_read B w sb lb rb F n L h o _ hl hh h2 hks
    · rw [if_neg h2]
      by_cases h4 : o.kind = 4
      · rw [if_pos h4]
        exact tells_get B w sb lb rb F n L h o la _ lc hh h4 hks
      · rw [if_neg h4]
        exact tells_none w _ o la _ lc hh h2 h4
end Go.Proofs.YtjeheknhpfkaiaaDoor
