/-
  Walks of the code's canEvent and Can.
-/
import Derived.Test.YtlkmciegpmpbbaaDoorHCanOp
import Derived.Lib.Builder
namespace Go.Proofs.YtlkmciegpmpbbaaDoor
set_option linter.unusedVariables false
set_option linter.unusedSimpArgs false
open Go.RowKit

/-- An event's own numbers may be. -/
abbrev evHead (e : MEv) : Prop := 1 ≤ e.kind ∧ e.kind ≤ 4 ∧ 0 ≤ e.proc ∧ e.proc ≤ 99 ∧ 1 ≤ e.ops.length ∧ e.ops.length ≤ 8
def opKey (o : MOp) : Bool := keyOk o.key && opOk o
def evOk (e : MEv) : Bool := decide (evHead e) && e.ops.all opKey
/-- A history may be. -/
def canM (l : List MEv) : Bool := decide (l.length ≤ 300) && l.all evOk

theorem ev_no {e : MEv} (h : ¬ evHead e) : evOk e = false := by unfold evOk; rw [decide_eq_false h]; rfl
theorem all_miss {α : Type} [Inhabited α] {p : α → Bool} : ∀ {l : List α} {k : Nat}, k < l.length → p (l.getD k default) = false → l.all p = false
  | [], k, h, _ => by simp at h
  | x :: l, 0, _, h => by simp at h; simp [h]
  | x :: l, k + 1, hk, h => by
    have := all_miss (p := p) (l := l) (k := k) (by simpa using hk) (by simpa using h)
    rw [List.all_cons, this, Bool.and_false]
theorem all_hit {α : Type} [Inhabited α] {p : α → Bool} : ∀ {l : List α}, (∀ k, k < l.length → p (l.getD k default) = true) → l.all p = true
  | [], _ => rfl
  | x :: l, h => by
    have h0 := h 0 (by simp)
    have := all_hit (p := p) (l := l) (fun k hk => by simpa using h (k + 1) (by simpa using hk))
    rw [List.all_cons, this]
    simpa using h0
theorem ev_miss {e : MEv} {k : Nat} (hk : k < e.ops.length) (h : opKey (e.ops.getD k default) = false) : evOk e = false := by
  unfold evOk; rw [all_miss hk h, Bool.and_false]
theorem ev_hit {e : MEv} (h : evHead e) (ha : ∀ k, k < e.ops.length → opKey (e.ops.getD k default) = true) : evOk e = true := by
  unfold evOk; rw [decide_eq_true h, all_hit ha]; rfl

theorem new_cells (w : World) (cs : Array Value) (t : TypeId) (j : Nat) : (w.alloc (.cells cs t)).cell? ⟨w.heap.size, j, none⟩ = cs[j]? := Lib.cell_of_heap (heap_alloc_new w _) j
theorem below_box (w : World) (o : Obj) : Below w.heap.size w (w.alloc o) := (Below.refl _ _).alloc (Nat.le_refl _) _

/-- The code's isProcess. -/
theorem isProcess_any (n : Int) (w : World) : Calls Tryd.prog 24 #[.int .i64 n] w fun e w' => e = .returned (.bool (decide (0 ≤ n) && decide (n ≤ 99))) ∧ w = w' := by
  by_cases h0 : 0 ≤ n
  · by_cases h1 : n ≤ 99
    · go_enter Tryd.func24, Tryd.ntmps24
      go_wp2_with fail
      go_ret
      exact ⟨ret_b (by simp [h0, h1]), rfl⟩
    · go_enter Tryd.func24, Tryd.ntmps24
      go_wp2_with fail
      go_ret
      exact ⟨ret_b (by simp [h0, h1]), rfl⟩
  · go_enter Tryd.func24, Tryd.ntmps24
    go_wp2_with fail
    go_ret
    exact ⟨ret_b (by rw [decide_eq_false (show ¬ 0 ≤ n by omega)]; rfl), rfl⟩

/-- The code's ops.Can. -/
theorem opCan_any {S : Nat → Prop} (o : MOp) (lv : Value) (w : World) (te : TypeId) (pe : Value) (hv : w.cell? ⟨0, 0, none⟩ = some pe) (h : IntsIn S w lv o.list) :
    Calls Tryd.prog 25 #[.agg #[.int .i64 o.kind, .string o.key, .int .i64 o.value, lv, .bool o.has, .bool o.nl]] w fun e w' => e = .returned (.bool (opKey o)) ∧ Below w.heap.size w w' := by
  obtain ⟨al1, cl1, rfl, -⟩ := id h
  have HVB : Hid (∀ o, (w.alloc o).cell? ⟨0, 0, none⟩ = some pe) := fun o => Lib.cell?_alloc_some _ hv
  have J1 := hid h
  clear h hv
  go_enter Tryd.func25, Tryd.ntmps25
  go_wp2_with fail
  refine (isKey_any o.key _ te pe (HVB.out _)).mono ?_
  rintro e w5 ⟨rfl, b5⟩
  have c0 := (b5.cell (p := ⟨w.heap.size, 0, none⟩) (by simp)).trans (new_cells w _ 34 0)
  have c1 := (b5.cell (p := ⟨w.heap.size, 1, none⟩) (by simp)).trans (new_cells w _ 34 1)
  have c2 := (b5.cell (p := ⟨w.heap.size, 2, none⟩) (by simp)).trans (new_cells w _ 34 2)
  have c3 := (b5.cell (p := ⟨w.heap.size, 3, none⟩) (by simp)).trans (new_cells w _ 34 3)
  have c4 := (b5.cell (p := ⟨w.heap.size, 4, none⟩) (by simp)).trans (new_cells w _ 34 4)
  have c5 := (b5.cell (p := ⟨w.heap.size, 5, none⟩) (by simp)).trans (new_cells w _ 34 5)
  simp only [List.getElem?_toArray, List.getElem?_cons_zero, List.getElem?_cons_succ] at c0 c1 c2 c3 c4 c5
  have b5' : Below w.heap.size w w5 := (below_box w _).trans (b5.mono (by simp))
  have HB5 := hid b5'
  have J5 := hid (J1.out.keep (T := Any) (keeps_below b5') (fun _ _ _ => trivial))
  clear b5 b5'
  cases q1 : keyOk o.key with
  | false =>
    go_wp2_with fail
    go_ret
    exact ⟨ret_b (by unfold opKey; rw [q1]; rfl), HB5.out⟩
  | true =>
    go_wp2_with fail
    refine (canOp_any o _ _ J5.out).mono ?_
    rintro e w6 ⟨rfl, b6⟩
    have HB6 : Hid (Below w.heap.size w w6) := HB5.out.trans (b6.mono HB5.out.size)
    clear b6 c0 c1 c2 c3 c4 c5
    go_wp2_with fail
    go_ret
    exact ⟨ret_b (by unfold opKey; rw [q1]; rfl), HB6.out⟩

set_option maxHeartbeats 4000000 in
set_option maxRecDepth 100000 in
/-- The code's canEvent. -/
theorem canEvent_any {S : Nat → Prop} (e : MEv) (ov : Value) (w : World) (te : TypeId) (pe : Value) (hv : w.cell? ⟨0, 0, none⟩ = some pe) (h : OpsIn S w ov e.ops) :
    Calls Tryd.prog 11 #[.agg #[.int .i64 e.kind, .int .i64 e.proc, ov]] w fun en w' => en = .returned (.bool (evOk e)) ∧ Below w.heap.size w w' := by
  have h1w : 0 < w.heap.size := World.block_lt_of_cell? _ _ hv
  have HV := hid hv
  clear hv
  obtain ⟨ek, ep, xs⟩ := e
  obtain ⟨a1, c1, rfl, hbig, k0⟩ := RowsIn.cells h (by omega)
  clear h
  simp only [MEv.kind, MEv.proc, MEv.ops] at *
  have HC := hid k0
  clear k0
  by_cases f1 : ek < 1
  · have N := hid (ev_no (e := (ek, ep, xs)) (fun h => by have := h.1; simp only [MEv.kind] at this; omega))
    go_enter Tryd.func11, Tryd.ntmps11
    go_wp2_with fail
    go_ret
    exact ⟨ret_b N.out, below_box _ _⟩
  by_cases f2 : 4 < ek
  · have N := hid (ev_no (e := (ek, ep, xs)) (fun h => by have := h.2.1; simp only [MEv.kind] at this; omega))
    go_enter Tryd.func11, Tryd.ntmps11
    go_wp2_with fail
    go_ret
    exact ⟨ret_b N.out, below_box _ _⟩
  cases q3 : (decide (0 ≤ ep) && decide (ep ≤ 99)) with
  | false =>
    have N := hid (ev_no (e := (ek, ep, xs)) (fun h => by have h3 := h.2.2.1; have h4 := h.2.2.2.1; simp only [MEv.proc] at h3 h4; simp [h3, h4] at q3))
    have IP := fun W => isProcess_any ep W
    rw [q3] at IP
    go_enter Tryd.func11, Tryd.ntmps11
    go_wp2_with (go_at_call 24; refine (IP _).mono ?_; rintro e w' ⟨rfl, rfl⟩)
    go_ret
    exact ⟨ret_b N.out, below_box _ _⟩
  | true =>
  have IP := fun W => isProcess_any ep W
  rw [q3] at IP
  simp only [Bool.and_eq_true, decide_eq_true_eq] at q3
  by_cases f5 : xs.length < 1
  · have f5i : ((xs.length : Nat) : Int) < 1 := by omega
    have N := hid (ev_no (e := (ek, ep, xs)) (fun h => by have := h.2.2.2.2.1; simp only [MEv.ops] at this; omega))
    go_enter Tryd.func11, Tryd.ntmps11
    go_wp2_with (go_at_call 24; refine (IP _).mono ?_; rintro e w' ⟨rfl, rfl⟩)
    go_ret
    exact ⟨ret_b N.out, below_box _ _⟩
  by_cases f6 : 8 < xs.length
  · have f5i : ¬ ((xs.length : Nat) : Int) < 1 := by omega
    have f6i : 8 < ((xs.length : Nat) : Int) := by omega
    have N := hid (ev_no (e := (ek, ep, xs)) (fun h => by have := h.2.2.2.2.2; simp only [MEv.ops] at this; omega))
    go_enter Tryd.func11, Tryd.ntmps11
    go_wp2_with (go_at_call 24; refine (IP _).mono ?_; rintro e w' ⟨rfl, rfl⟩)
    go_ret
    exact ⟨ret_b N.out, below_box _ _⟩
  have f5i : ¬ ((xs.length : Nat) : Int) < 1 := by omega
  have f6i : ¬ 8 < ((xs.length : Nat) : Int) := by omega
  have HH : Hid (evHead (ek, ep, xs)) := ⟨by simp only [MEv.kind]; omega, by simp only [MEv.kind]; omega, q3.1, q3.2, by simp only [MEv.ops]; omega, by simp only [MEv.ops]; omega⟩
  clear f5 f6 q3
  go_enter Tryd.func11, Tryd.ntmps11
  go_wp2_with (go_at_call 24; refine (IP _).mono ?_; rintro e w' ⟨rfl, rfl⟩)
  clear IP f1 f2 f5i f6i
  go_loopg [32] xs.length (fun g i wr => ∃ k : Nat, k ≤ xs.length ∧ xs.length - k ≤ g ∧ i = .int .i64 k ∧ Aside (Below w.heap.size w wr) ∧ Aside (∀ j, j < k → opKey (xs.getD j default) = true))
  case atStart => exact ⟨0, Nat.zero_le _, by omega, rfl, below_box _ _, fun j hj => absurd hj (Nat.not_lt_zero _)⟩
  case round =>
    obtain ⟨k, hk, hg, rfl, BW, A⟩ := hrel
    by_cases hlt : k < xs.length
    · have hlti : (k : Int) < (xs.length : Int) := by omega
      obtain ⟨b1, o1, cs1, rfl, hb1, _, ⟨l1, rfl, i1⟩, k1⟩ := HC.out k hlt
      have d0 : wr.cell? ⟨b1, o1 + k * 6, none⟩ = _ := (BW.out.cell (p := ⟨b1, o1 + k * 6, none⟩) hb1).trans (k1 0 _ rfl)
      have d1 := (BW.out.cell (p := ⟨b1, o1 + k * 6 + 1, none⟩) hb1).trans (k1 1 _ rfl)
      have d2 := (BW.out.cell (p := ⟨b1, o1 + k * 6 + 2, none⟩) hb1).trans (k1 2 _ rfl)
      have d3 := (BW.out.cell (p := ⟨b1, o1 + k * 6 + 3, none⟩) hb1).trans (k1 3 _ rfl)
      have d4 := (BW.out.cell (p := ⟨b1, o1 + k * 6 + 4, none⟩) hb1).trans (k1 4 _ rfl)
      have d5 := (BW.out.cell (p := ⟨b1, o1 + k * 6 + 5, none⟩) hb1).trans (k1 5 _ rfl)
      clear k1
      have hsz := BW.out.size
      have j1 := i1.keep (T := Any) (keeps_below BW.out) (fun _ _ _ => trivial)
      clear i1
      generalize hX : xs.getD k default = X at *
      have HX' := hid hX
      clear hX
      obtain ⟨al1, cl1, rfl, -⟩ := id j1
      have J1 := hid j1
      clear j1
      have hvr : wr.cell? ⟨0, 0, none⟩ = some pe := (BW.out.cell (p := ⟨0, 0, none⟩) h1w).trans HV.out
      have HVB : Hid (∀ o, (wr.alloc o).cell? ⟨0, 0, none⟩ = some pe) := fun o => Lib.cell?_alloc_some _ hvr
      clear hvr
      go_wp2_with fail
      have J5 : Hid (∀ o, IntsIn Any (wr.alloc o) _ X.list) := fun o => J1.out.keep (T := Any) (keeps_below (below_box wr o)) (fun _ _ _ => trivial)
      refine (opCan_any X _ _ te pe (HVB.out _) (J5.out _)).mono ?_
      rintro e w6 ⟨rfl, b6⟩
      have HB6 : Hid (Below w.heap.size w w6) := BW.out.trans (((below_box wr _).trans (b6.mono (by simp))).mono hsz)
      clear b6
      cases q2 : opKey X with
      | false =>
        have N := hid (ev_miss (e := (ek, ep, xs)) (k := k) hlt (by show opKey (xs.getD k default) = false; rw [HX'.out]; exact q2))
        go_wp2_with fail
        go_ret
        exact ⟨ret_b N.out, HB6.out⟩
      | true =>
        go_wp2_with fail
        go_roundg (xs.length - (k + 1))
        case measure => omega
        case rel =>
          refine ⟨k + 1, by omega, by omega, by go_num, HB6.out, (show Aside _ from fun j hj => ?_)⟩
          by_cases e : j = k
          · subst e; rw [HX'.out]; exact q2
          · exact A.out j (by omega)
    · have N := hid (ev_hit (e := (ek, ep, xs)) HH.out (fun j hj => A.out j (by simp only [MEv.ops] at hj; omega)))
      go_wp2_with fail
      go_ret
      exact ⟨ret_b N.out, BW.out⟩

theorem can_long {l : List MEv} (h : 300 < l.length) : canM l = false := by unfold canM; rw [decide_eq_false (by omega)]; rfl
theorem can_miss {l : List MEv} {k : Nat} (hk : k < l.length) (h : evOk (l.getD k default) = false) : canM l = false := by unfold canM; rw [all_miss hk h, Bool.and_false]
theorem can_hit {l : List MEv} (h : l.length ≤ 300) (ha : ∀ k, k < l.length → evOk (l.getD k default) = true) : canM l = true := by unfold canM; rw [decide_eq_true h, all_hit ha]; rfl

set_option maxHeartbeats 4000000 in
set_option maxRecDepth 100000 in
/-- The code's Can. -/
theorem can_any {S : Nat → Prop} (v : Value) (l : List MEv) (w : World) (te : TypeId) (pe : Value) (hv : w.cell? ⟨0, 0, none⟩ = some pe) (h : EvsIn S w v l) :
    Calls Tryd.prog 5 #[v] w fun e w' => e = .returned (.bool (canM l)) ∧ Below w.heap.size w w' := by
  have h1w : 0 < w.heap.size := World.block_lt_of_cell? _ _ hv
  have HV := hid hv
  clear hv
  obtain ⟨a1, c1, rfl, hbig, k0⟩ := RowsIn.cells h (by omega)
  have HC := hid k0
  clear h k0
  by_cases f1 : 300 < l.length
  · have f1i : 300 < ((l.length : Nat) : Int) := by omega
    have N := hid (can_long f1)
    go_enter Tryd.func5, Tryd.ntmps5
    go_wp2_with fail
    go_ret
    exact ⟨ret_b N.out, Below.refl _ _⟩
  have f1i : ¬ 300 < ((l.length : Nat) : Int) := by omega
  go_enter Tryd.func5, Tryd.ntmps5
  go_wp2_with fail
  clear f1i
  go_loopg [10] l.length (fun g i wr => ∃ k : Nat, k ≤ l.length ∧ l.length - k ≤ g ∧ i = .int .i64 k ∧ Aside (Below w.heap.size w wr) ∧ Aside (∀ j, j < k → evOk (l.getD j default) = true))
  case atStart => exact ⟨0, Nat.zero_le _, by omega, rfl, Below.refl _ _, fun j hj => absurd hj (Nat.not_lt_zero _)⟩
  case round =>
    obtain ⟨k, hk, hg, rfl, BW, A⟩ := hrel
    by_cases hlt : k < l.length
    · have hlti : (k : Int) < (l.length : Int) := by omega
      obtain ⟨b1, o1, cs1, rfl, hb1, _, ⟨ov, rfl, i1⟩, k1⟩ := HC.out k hlt
      have d0 : wr.cell? ⟨b1, o1 + k * 3, none⟩ = _ := (BW.out.cell (p := ⟨b1, o1 + k * 3, none⟩) hb1).trans (k1 0 _ rfl)
      have d1 := (BW.out.cell (p := ⟨b1, o1 + k * 3 + 1, none⟩) hb1).trans (k1 1 _ rfl)
      have d2 := (BW.out.cell (p := ⟨b1, o1 + k * 3 + 2, none⟩) hb1).trans (k1 2 _ rfl)
      clear k1
      have hsz := BW.out.size
      obtain ⟨oa, oc, rfl, -⟩ := id i1
      have J1 : Hid (∀ o, OpsIn Any (wr.alloc o) _ (l.getD k default).ops) := fun o => i1.keep (keeps_below (BW.out.trans ((below_box wr o).mono hsz))) (fun _ _ _ => trivial)
      clear i1
      generalize hX : l.getD k default = X at *
      have HX' := hid hX
      clear hX
      have hvr : wr.cell? ⟨0, 0, none⟩ = some pe := (BW.out.cell (p := ⟨0, 0, none⟩) h1w).trans HV.out
      have HVB : Hid (∀ o, (wr.alloc o).cell? ⟨0, 0, none⟩ = some pe) := fun o => Lib.cell?_alloc_some _ hvr
      clear hvr
      go_wp2_with fail
      refine (canEvent_any X _ _ te pe (HVB.out _) (J1.out _)).mono ?_
      rintro e w5 ⟨rfl, b5⟩
      have HB5 : Hid (Below w.heap.size w w5) := BW.out.trans (((below_box wr _).trans (b5.mono (by simp))).mono hsz)
      clear b5
      cases q1 : evOk X with
      | false =>
        have N := hid (can_miss hlt (by rw [HX'.out]; exact q1))
        go_wp2_with fail
        go_ret
        exact ⟨ret_b N.out, HB5.out⟩
      | true =>
        go_wp2_with fail
        go_roundg (l.length - (k + 1))
        case measure => omega
        case rel =>
          refine ⟨k + 1, by omega, by omega, by go_num, HB5.out, (show Aside _ from fun j hj => ?_)⟩
          by_cases e : j = k
          · subst e; rw [HX'.out]; exact q1
          · exact A.out j (by omega)
    · have N := hid (can_hit (l := l) (by omega) (fun j hj => A.out j (by omega)))
      go_wp2_with fail
      go_ret
      exact ⟨ret_b N.out, BW.out⟩
end Go.Proofs.YtlkmciegpmpbbaaDoor
