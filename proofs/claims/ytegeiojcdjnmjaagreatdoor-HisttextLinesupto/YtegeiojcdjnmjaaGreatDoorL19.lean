/-
  The reference's reader of tokens: its state in memory, and walks of is, fail and want.
  The reference's reader of tokens: walks of key and word.
  The reference's reader of tokens: a walk of word.
  The reference's reader of tokens: an operation, plain, and its six cells in a box.
-/
import Derived.Test.YtegeiojcdjnmjaaGreatDoorL18
namespace Go.Proofs.YtegeiojcdjnmjaaGreatDoor
set_option linter.unusedVariables false
set_option linter.unusedSimpArgs false
open Go.RowKit

/-- Tokens that are left, in memory, below bx. -/
def LeftIn (bx : Nat) (w : World) (v : Value) (l : List MTok) : Prop :=
  ∃ ao c, v = .slice ao l.length c ∧ l.length ≤ c ∧ (0 < l.length → ∃ b off, ao = some ⟨b, off, none⟩ ∧ b < bx ∧ ∀ j, j < l.length → ∀ i u, (tkC (l.getD j default))[i]? = some u → w.cell? ⟨b, off + j * 4 + i, none⟩ = some u)
theorem LeftIn.keep {bx : Nat} {w w' : World} {v : Value} {l : List MTok} (h : LeftIn bx w v l) (hb : Below bx w w') : LeftIn bx w' v l := by
  obtain ⟨ao, c, hv, hc, hj⟩ := h
  refine ⟨ao, c, hv, hc, fun h0 => ?_⟩
  obtain ⟨b, off, ha, hlt, hcs⟩ := hj h0
  exact ⟨b, off, ha, hlt, fun j hjl i u hi => (hb.cell (p := ⟨b, off + j * 4 + i, none⟩) hlt).trans (hcs j hjl i u hi)⟩

/-- The five cells of the reader. -/
structure RC (bx : Nat) (w : World) (v : Value) (en : Int) (bd : Bool) (a y : Int) : Prop where
  c0 : w.cell? ⟨bx, 0, none⟩ = some v
  c1 : w.cell? ⟨bx, 1, none⟩ = some (.int .i64 en)
  c2 : w.cell? ⟨bx, 2, none⟩ = some (.bool bd)
  c3 : w.cell? ⟨bx, 3, none⟩ = some (.int .i64 a)
  c4 : w.cell? ⟨bx, 4, none⟩ = some (.int .i64 y)
  z0 : w.frozen? ⟨bx, 0, none⟩ = false
  z2 : w.frozen? ⟨bx, 2, none⟩ = false
  z3 : w.frozen? ⟨bx, 3, none⟩ = false
  z4 : w.frozen? ⟨bx, 4, none⟩ = false
section
variable {bx : Nat} {w : World} {v : Value} {en : Int} {bd : Bool} {a y : Int}
theorem RC.set0 (h : RC bx w v en bd a y) (u : Value) : RC bx (w.setCell ⟨bx, 0, none⟩ u) u en bd a y :=
  ⟨World.cell?_setCell_same _ _ _ h.c0, (World.cell?_setCell_other _ _ _ _ (by simp)).trans h.c1, (World.cell?_setCell_other _ _ _ _ (by simp)).trans h.c2, (World.cell?_setCell_other _ _ _ _ (by simp)).trans h.c3, (World.cell?_setCell_other _ _ _ _ (by simp)).trans h.c4, (World.frozen?_setCell _ _ _ _).trans h.z0, (World.frozen?_setCell _ _ _ _).trans h.z2, (World.frozen?_setCell _ _ _ _).trans h.z3, (World.frozen?_setCell _ _ _ _).trans h.z4⟩
theorem RC.set2 (h : RC bx w v en bd a y) (u : Bool) : RC bx (w.setCell ⟨bx, 2, none⟩ (.bool u)) v en u a y :=
  ⟨(World.cell?_setCell_other _ _ _ _ (by simp)).trans h.c0, (World.cell?_setCell_other _ _ _ _ (by simp)).trans h.c1, World.cell?_setCell_same _ _ _ h.c2, (World.cell?_setCell_other _ _ _ _ (by simp)).trans h.c3, (World.cell?_setCell_other _ _ _ _ (by simp)).trans h.c4, (World.frozen?_setCell _ _ _ _).trans h.z0, (World.frozen?_setCell _ _ _ _).trans h.z2, (World.frozen?_setCell _ _ _ _).trans h.z3, (World.frozen?_setCell _ _ _ _).trans h.z4⟩
theorem RC.set3 (h : RC bx w v en bd a y) (u : Int) : RC bx (w.setCell ⟨bx, 3, none⟩ (.int .i64 u)) v en bd u y :=
  ⟨(World.cell?_setCell_other _ _ _ _ (by simp)).trans h.c0, (World.cell?_setCell_other _ _ _ _ (by simp)).trans h.c1, (World.cell?_setCell_other _ _ _ _ (by simp)).trans h.c2, World.cell?_setCell_same _ _ _ h.c3, (World.cell?_setCell_other _ _ _ _ (by simp)).trans h.c4, (World.frozen?_setCell _ _ _ _).trans h.z0, (World.frozen?_setCell _ _ _ _).trans h.z2, (World.frozen?_setCell _ _ _ _).trans h.z3, (World.frozen?_setCell _ _ _ _).trans h.z4⟩
theorem RC.set4 (h : RC bx w v en bd a y) (u : Int) : RC bx (w.setCell ⟨bx, 4, none⟩ (.int .i64 u)) v en bd a u :=
  ⟨(World.cell?_setCell_other _ _ _ _ (by simp)).trans h.c0, (World.cell?_setCell_other _ _ _ _ (by simp)).trans h.c1, (World.cell?_setCell_other _ _ _ _ (by simp)).trans h.c2, (World.cell?_setCell_other _ _ _ _ (by simp)).trans h.c3, World.cell?_setCell_same _ _ _ h.c4, (World.frozen?_setCell _ _ _ _).trans h.z0, (World.frozen?_setCell _ _ _ _).trans h.z2, (World.frozen?_setCell _ _ _ _).trans h.z3, (World.frozen?_setCell _ _ _ _).trans h.z4⟩
end
/-- The reader in its box. -/
def RS (bx : Nat) (en : Int) (w : World) (r : Rd) : Prop := ∃ v, RC bx w v en r.2.isSome (r.2.getD (0, 0)).1 (r.2.getD (0, 0)).2 ∧ LeftIn bx w v r.1
theorem RS.lt {bx : Nat} {en : Int} {w : World} {r : Rd} (h : RS bx en w r) : bx < w.heap.size := by
  obtain ⟨v, h, _⟩ := h
  exact World.block_lt_of_cell? _ _ h.c1
theorem RS.keep {bx : Nat} {en : Int} {w w' : World} {r : Rd} (h : RS bx en w r) (hb : Below (bx + 1) w w') : RS bx en w' r := by
  obtain ⟨v, h, hl⟩ := h
  have k : ∀ i, w'.cell? ⟨bx, i, none⟩ = w.cell? ⟨bx, i, none⟩ := fun i => hb.cell (p := ⟨bx, i, none⟩) (Nat.lt_succ_self _)
  have f : ∀ i, w'.frozen? ⟨bx, i, none⟩ = w.frozen? ⟨bx, i, none⟩ := fun i => hb.frozen (p := ⟨bx, i, none⟩) (Nat.lt_succ_self _)
  exact ⟨v, ⟨(k 0).trans h.c0, (k 1).trans h.c1, (k 2).trans h.c2, (k 3).trans h.c3, (k 4).trans h.c4, (f 0).trans h.z0, (f 2).trans h.z2, (f 3).trans h.z3, (f 4).trans h.z4⟩, hl.keep (hb.mono (Nat.le_succ _))⟩
theorem LeftIn.beside {bx : Nat} {w w' : World} {v : Value} {l : List MTok} (h : LeftIn bx w v l) (hb : Beside bx w w') (hs : bx ≤ w.heap.size) : LeftIn bx w' v l := h.keep (hb.below (Nat.le_refl _) hs)
theorem LeftIn.tail1 {bx : Nat} {w : World} {b off c n : Nat} {t : MTok} {l : List MTok} (h : LeftIn bx w (.slice (some ⟨b, off, none⟩) n c) (t :: l)) : LeftIn bx w (.slice (some ⟨b, off + 4, none⟩) l.length (c - 1)) l := by
  obtain ⟨ao, c', hv, hc, hj⟩ := h
  cases hv
  obtain ⟨b', off', ha, hlt, hcs⟩ := hj (by simp)
  cases ha
  simp only [List.length_cons] at *
  refine ⟨_, c - 1, rfl, by omega, fun h0 => ?_⟩
  refine ⟨b, off + 4, rfl, hlt, fun j hjl i u hi => ?_⟩
  have := hcs (j + 1) (by omega) i u (by simpa using hi)
  rw [show off + 4 + j * 4 + i = off + (j + 1) * 4 + i by omega]
  exact this
theorem LeftIn.tail0 {bx : Nat} {w : World} {a : Option Addr} {l : List MTok} (h : l.length + 1 ≤ 1) : LeftIn bx w (.slice a l.length 0) l :=
  ⟨a, 0, rfl, by omega, fun h0 => by omega⟩
theorem rs_take {bx : Nat} {en : Int} {w : World} {v u : Value} {l : List MTok} (h : RC bx w v en false 0 0) (hl : LeftIn bx w u l) (o1 o2 : Obj) : RS bx en (((w.setCell ⟨bx, 0, none⟩ u).alloc o1).alloc o2) (l, none) := by
  have hlt : bx < w.heap.size := World.block_lt_of_cell? _ _ h.c1
  have h1 : RS bx en (w.setCell ⟨bx, 0, none⟩ u) (l, none) := ⟨u, h.set0 u, hl.beside ((Beside.refl bx w).setCell (p := ⟨bx, 0, none⟩) rfl _) (Nat.le_of_lt hlt)⟩
  have h2 := h1.keep ((below_box _ o1).mono h1.lt)
  exact h2.keep ((below_box _ o2).mono h2.lt)
theorem be_take (bx : Nat) (w : World) (u : Value) (o1 o2 : Obj) : Beside bx w (((w.setCell ⟨bx, 0, none⟩ u).alloc o1).alloc o2) :=
  (((Beside.refl bx w).setCell (p := ⟨bx, 0, none⟩) rfl _).trans (Beside.of_below (below_box _ o1))).trans (Beside.of_below (below_box _ o2))

set_option maxHeartbeats 2000000 in
set_option maxRecDepth 100000 in
theorem is_any (bx : Nat) (en : Int) (r : Rd) (kind : Int) (text : ByteArray) (w : World) (h : RS bx en w r) :
    Calls Tryz.prog 17 #[.pointer (some ⟨bx, 0, none⟩), .int .i64 kind, .string text] w fun e w' => e = .returned (.bool (rIs r kind text)) ∧ w = w' := by
  obtain ⟨v, ⟨e0, c1, c2, c3, c4, z0, z2, z3, z4⟩, ao, c, rfl, hc, hj⟩ := h
  obtain ⟨l, f⟩ := r
  cases f with
  | some f =>
    have hr : rIs (l, some f) kind text = false := by cases l <;> rfl
    rw [hr]
    simp only [Option.isSome_some] at c2
    clear hj
    go_enter Tryz.func17, Tryz.ntmps17
    go_wp2_with fail
    go_ret
    exact ⟨rfl, rfl⟩
  | none =>
    simp only [Option.isSome_none] at c2
    cases l with
    | nil =>
      have hr : rIs ([], none) kind text = false := rfl
      rw [hr]
      simp only [List.length_nil] at *
      clear hj
      go_enter Tryz.func17, Tryz.ntmps17
      go_wp2_with fail
      go_ret
      exact ⟨rfl, rfl⟩
    | cons t l =>
      obtain ⟨b, off, rfl, hlt, hcs⟩ := hj (by simp)
      have hr : rIs (t :: l, none) kind text = tokIs t kind text := rfl
      rw [hr]
      have d0 : w.cell? ⟨b, off, none⟩ = some (.int .i64 t.1) := by simpa using hcs 0 (by simp) 0 _ rfl
      have d2 : w.cell? ⟨b, off + 2, none⟩ = some (.string t.2.2.1) := by simpa using hcs 0 (by simp) 2 _ rfl
      clear hcs hj
      simp only [List.length_cons] at *
      go_enter Tryz.func17, Tryz.ntmps17
      go_wp2_with fail
      all_goals (go_ret; exact ⟨by simp_all [tokIs, Act.tmps], rfl⟩)

theorem nil_or (l : List MTok) (n : Nat) (h : l.length = n) : (l = [] ∧ n = 0) ∨ ∃ t r, l = t :: r ∧ n = r.length + 1 := by
  cases l with
  | nil => exact .inl ⟨rfl, h.symm⟩
  | cons t r => exact .inr ⟨t, r, rfl, h.symm⟩

theorem rc_fail {bx : Nat} {w : World} {v : Value} {en : Int} {bd : Bool} {a0 y0 : Int} (h : RC bx w v en bd a0 y0) (a y : Int) : RC bx (((w.setCell ⟨bx, 2, none⟩ (.bool true)).setCell ⟨bx, 3, none⟩ (.int .i64 a)).setCell ⟨bx, 4, none⟩ (.int .i64 y)) v en true a y :=
  ((h.set2 true).set3 a).set4 y
theorem be_fail (bx : Nat) (w : World) (a y : Int) : Beside bx w (((w.setCell ⟨bx, 2, none⟩ (.bool true)).setCell ⟨bx, 3, none⟩ (.int .i64 a)).setCell ⟨bx, 4, none⟩ (.int .i64 y)) :=
  (((Beside.refl bx w).setCell rfl _).setCell rfl _).setCell rfl _

set_option maxHeartbeats 2000000 in
set_option maxRecDepth 100000 in
theorem fail_any (bx : Nat) (en why : Int) (r : Rd) (w : World) (h : RS bx en w r) :
    Calls Tryz.prog 19 #[.pointer (some ⟨bx, 0, none⟩), .int .i64 why] w fun e w' => e = .returned (.tuple #[]) ∧ RS bx en w' (rFail en why r) ∧ Beside bx w w' := by
  have H := hid h
  have hsz : bx ≤ w.heap.size := Nat.le_of_lt h.lt
  obtain ⟨v, hrc, hle⟩ := h
  have HRC := hid hrc
  have HLE := hid hle
  obtain ⟨e0, c1, c2, c3, c4, z0, z2, z3, z4⟩ := hrc
  obtain ⟨ao, c, rfl, hc, hj⟩ := hle
  obtain ⟨l, f⟩ := r
  cases f with
  | some f =>
    have hr : rFail en why (l, some f) = (l, some f) := rfl
    rw [hr]
    simp only [Option.isSome_some] at c2
    clear hj
    go_enter Tryz.func19, Tryz.ntmps19
    go_wp2_with fail
    exact bodyPost_ret (results_none rfl _ _ _) rfl ⟨rfl, H.out, Beside.refl _ _⟩
  | none =>
    simp only [Option.isSome_none] at c2
    cases l with
    | nil =>
      simp only [List.length_nil] at *
      clear hj
      go_enter Tryz.func19, Tryz.ntmps19
      go_wp2_with fail
      exact bodyPost_end (results_none rfl _ _ _) rfl ⟨rfl, ⟨_, rc_fail HRC.out _ _, HLE.out.beside (be_fail _ _ _ _) hsz⟩, be_fail _ _ _ _⟩
    | cons t l =>
      obtain ⟨b, off, rfl, hlt, hcs⟩ := hj (by simp)
      have d1 : w.cell? ⟨b, off + 1, none⟩ = some (.int .i64 t.2.1) := by simpa using hcs 0 (by simp) 1 _ rfl
      have hne : bx ≠ b := by omega
      clear hcs hj
      simp only [List.length_cons] at *
      go_enter Tryz.func19, Tryz.ntmps19
      go_wp2_with fail
      exact bodyPost_end (results_none rfl _ _ _) rfl ⟨rfl, ⟨_, (rc_fail HRC.out _ _).set3 _, HLE.out.beside ((be_fail bx w _ _).setCell (p := ⟨bx, 3, none⟩) rfl _) hsz⟩, (be_fail bx w _ _).setCell (p := ⟨bx, 3, none⟩) rfl _⟩

theorem rs_put {bx g : Nat} {en : Int} {w : World} {r : Rd} (h : RS bx en w r) (hg : bx + 1 ≤ g) (a0 a1 a2 a3 : Value) : RS bx en ((((w.setCell ⟨g, 0, none⟩ a0).setCell ⟨g, 1, none⟩ a1).setCell ⟨g, 2, none⟩ a2).setCell ⟨g, 3, none⟩ a3) r :=
  h.keep (((((Below.refl _ _).setCell (p := ⟨g, 0, none⟩) hg _).setCell (p := ⟨g, 1, none⟩) hg _).setCell (p := ⟨g, 2, none⟩) hg _).setCell (p := ⟨g, 3, none⟩) hg _)
theorem be_put {bx g : Nat} {w w' : World} (h : Beside bx w w') (hg : w.heap.size ≤ g) (a0 a1 a2 a3 : Value) : Beside bx w ((((w'.setCell ⟨g, 0, none⟩ a0).setCell ⟨g, 1, none⟩ a1).setCell ⟨g, 2, none⟩ a2).setCell ⟨g, 3, none⟩ a3) :=
  (((h.setNew (p := ⟨g, 0, none⟩) hg _).setNew (p := ⟨g, 1, none⟩) hg _).setNew (p := ⟨g, 2, none⟩) hg _).setNew (p := ⟨g, 3, none⟩) hg _

set_option maxHeartbeats 2000000 in
set_option maxRecDepth 100000 in
theorem want_any (bx : Nat) (en : Int) (r : Rd) (kind : Int) (text : ByteArray) (w : World) (h : RS bx en w r) :
    Calls Tryz.prog 18 #[.pointer (some ⟨bx, 0, none⟩), .int .i64 kind, .string text] w fun e w' => e = .returned (tokV (rWant en r kind text).1) ∧ RS bx en w' (rWant en r kind text).2 ∧ Beside bx w w' := by
  have hlt := h.lt
  have B1 : ∀ o, Below w.heap.size w (w.alloc o) := fun o => below_box w o
  have H1 : Hid (∀ o, RS bx en (w.alloc o) r) := fun o => h.keep ((B1 o).mono hlt)
  cases hi : rIs r kind text with
  | false =>
    have hw : rWant en r kind text = (noTok, rFail en 20 r) := by
      obtain ⟨l, f⟩ := r
      cases l with
      | nil => rfl
      | cons t l =>
        cases f with
        | some f => rfl
        | none => simp only [rIs] at hi; simp [rWant, hi]
    rw [hw]
    go_enter Tryz.func18, Tryz.ntmps18
    go_wp2_with (first | (go_at_call 17; refine (is_any _ _ _ _ _ _ (H1.out _)).mono ?_; rintro e w' ⟨rfl, rfl⟩; rw [hi]))
    go_at_call 19
    refine (fail_any _ _ _ _ _ (H1.out _)).mono ?_
    rintro e w2 ⟨rfl, h2, b2⟩
    have hnb : w.heap.size ≠ bx := by omega
    have k0 : w2.cell? ⟨w.heap.size, 0, none⟩ = some (.int .i64 0) := (b2.cell (p := ⟨w.heap.size, 0, none⟩) (by simp) hnb).trans (new_cells w _ 57 0)
    have k1 : w2.cell? ⟨w.heap.size, 1, none⟩ = some (.int .i64 0) := (b2.cell (p := ⟨w.heap.size, 1, none⟩) (by simp) hnb).trans (new_cells w _ 57 1)
    have k2 : w2.cell? ⟨w.heap.size, 2, none⟩ = some (.string ByteArray.empty) := (b2.cell (p := ⟨w.heap.size, 2, none⟩) (by simp) hnb).trans (new_cells w _ 57 2)
    have k3 : w2.cell? ⟨w.heap.size, 3, none⟩ = some (.int .i64 0) := (b2.cell (p := ⟨w.heap.size, 3, none⟩) (by simp) hnb).trans (new_cells w _ 57 3)
    have f0 : w2.frozen? ⟨w.heap.size, 0, none⟩ = false := (b2.frozen (p := ⟨w.heap.size, 0, none⟩) (by simp) hnb).trans (Lib.frozen_of_heap (heap_alloc_new w _) 0)
    have f1 : w2.frozen? ⟨w.heap.size, 1, none⟩ = false := (b2.frozen (p := ⟨w.heap.size, 1, none⟩) (by simp) hnb).trans (Lib.frozen_of_heap (heap_alloc_new w _) 1)
    have f2 : w2.frozen? ⟨w.heap.size, 2, none⟩ = false := (b2.frozen (p := ⟨w.heap.size, 2, none⟩) (by simp) hnb).trans (Lib.frozen_of_heap (heap_alloc_new w _) 2)
    have f3 : w2.frozen? ⟨w.heap.size, 3, none⟩ = false := (b2.frozen (p := ⟨w.heap.size, 3, none⟩) (by simp) hnb).trans (Lib.frozen_of_heap (heap_alloc_new w _) 3)
    have B2 : Hid (Beside bx w w2) := (Beside.of_below (B1 _)).trans b2
    have H2 := hid h2
    clear b2 h2
    go_wp2_with fail
    refine bodyPost_ret (v := tokV noTok) (by simp [results, Tryz.results18, go_sem, k0, k1, k2, k3]; rfl) rfl ⟨rfl, rs_put H2.out (by omega) _ _ _ _, be_put B2.out (Nat.le_refl _) _ _ _ _⟩
  | true =>
    obtain ⟨l0, f⟩ := r
    cases l0 with
    | nil => cases f <;> simp [rIs] at hi
    | cons t l =>
      cases f with
      | some f => simp [rIs] at hi
      | none =>
        have hti : tokIs t kind text = true := hi
        have hw : rWant en (t :: l, none) kind text = (t, (l, none)) := by simp [rWant, hti]
        rw [hw]
        obtain ⟨v, hrc, hle⟩ := h
        have HRC := hid hrc
        have HLE := hid hle
        obtain ⟨e0, c1, c2, c3, c4, z0, z2, z3, z4⟩ := hrc
        obtain ⟨ao, c, rfl, hc, hj⟩ := hle
        obtain ⟨b, off, rfl, hbb, hcs⟩ := hj (by simp)
        have d0 : w.cell? ⟨b, off, none⟩ = some (.int .i64 t.1) := by simpa using hcs 0 (by simp) 0 _ rfl
        have d1 : w.cell? ⟨b, off + 1, none⟩ = some (.int .i64 t.2.1) := by simpa using hcs 0 (by simp) 1 _ rfl
        have d2 : w.cell? ⟨b, off + 2, none⟩ = some (.string t.2.2.1) := by simpa using hcs 0 (by simp) 2 _ rfl
        have d3 : w.cell? ⟨b, off + 3, none⟩ = some (.int .i64 t.2.2.2) := by simpa using hcs 0 (by simp) 3 _ rfl
        have hbw : b < w.heap.size := by omega
        clear hcs hj c1 c2 c3 c4 z2 z3 z4
        simp only [List.length_cons] at *
        go_enter Tryz.func18, Tryz.ntmps18
        go_wp2_with (first | (go_at_call 17; refine (is_any _ _ _ _ _ _ (H1.out _)).mono ?_; rintro e w' ⟨rfl, rfl⟩; rw [hi]))
        · refine bodyPost_ret (v := tokV t) (by simp [results, Tryz.results18, go_sem]) rfl ⟨rfl, rs_take HRC.out (LeftIn.tail0 (by omega)) _ _, be_take _ _ _ _ _⟩
        · refine bodyPost_ret (v := tokV t) (by simp [results, Tryz.results18, go_sem]) rfl ⟨rfl, rs_take HRC.out HLE.out.tail1 _ _, be_take _ _ _ _ _⟩
end Go.Proofs.YtegeiojcdjnmjaaGreatDoor
namespace Go.Proofs.YtegeiojcdjnmjaaGreatDoor
set_option linter.unusedVariables false
set_option linter.unusedSimpArgs false
open Go.RowKit

theorem tokf2 (a b : Int) (c : ByteArray) (d : Int) (W : World) : (Instr.field 57 (.agg #[.int .i64 a, .int .i64 b, .string c, .int .i64 d]) 2).run Tryz.prog W = .ok (.string c) W := by kernel_rfl
theorem tokf3 (a b : Int) (c : ByteArray) (d : Int) (W : World) : (Instr.field 57 (.agg #[.int .i64 a, .int .i64 b, .string c, .int .i64 d]) 3).run Tryz.prog W = .ok (.int .i64 d) W := by kernel_rfl
theorem rs_first {bx : Nat} {en : Int} {w : World} {t : MTok} {l : List MTok} {f : Option (Int × Int)} (h : RS bx en w (t :: l, f)) :
    ∃ b off c, w.cell? ⟨bx, 0, none⟩ = some (.slice (some ⟨b, off, none⟩) (l.length + 1) c) ∧ b < bx ∧ (∀ i u, (tkC t)[i]? = some u → w.cell? ⟨b, off + i, none⟩ = some u) := by
  obtain ⟨v, hrc, ao, c, rfl, hc, hj⟩ := h
  obtain ⟨b, off, rfl, hlt, hcs⟩ := hj (by simp)
  exact ⟨b, off, c, hrc.c0, hlt, fun i u hi => by simpa using hcs 0 (by simp) i u (by simpa using hi)⟩

theorem rIs_true {r : Rd} {k : Int} {x : ByteArray} (h : rIs r k x = true) : ∃ t l, r = (t :: l, none) ∧ tokIs t k x = true := by
  obtain ⟨l, f⟩ := r
  cases l with
  | nil => cases f <;> simp [rIs] at h
  | cons t l =>
    cases f with
    | some f => simp [rIs] at h
    | none => exact ⟨t, l, rfl, h⟩

set_option maxHeartbeats 2000000 in
set_option maxRecDepth 100000 in
theorem key_any (bx : Nat) (en : Int) (r : Rd) (w : World) (h : RS bx en w r) :
    Calls Tryz.prog 71 #[.pointer (some ⟨bx, 0, none⟩)] w fun e w' => e = .returned (.string (rKey en r).1) ∧ RS bx en w' (rKey en r).2 ∧ Beside bx w w' := by
  have H := hid h
  have F2 := tokf2
  cases hi : rIs r 1 ⟨#[]⟩ with
  | false =>
    have hk : rKey en r = ((rWant en r 1 ⟨#[]⟩).1.2.2.1, (rWant en r 1 ⟨#[]⟩).2) := by simp [rKey, hi]
    rw [hk]
    have HW := hid (want_any bx en r 1 ⟨#[]⟩ w H.out)
    generalize rWant en r 1 ⟨#[]⟩ = q at *
    obtain ⟨⟨qa, qb, qc, qd⟩, qr⟩ := q
    go_enter Tryz.func71, Tryz.ntmps71
    go_wp2_with (first | (go_at_call 17; refine (is_any _ _ _ _ _ _ H.out).mono ?_; rintro e w' ⟨rfl, rfl⟩; rw [hi]))
    go_at_call 18
    refine HW.out.mono ?_
    rintro e w2 ⟨he, h2, b2⟩
    simp only [tokV] at he
    subst he
    have H2 := hid h2
    have B2 := hid b2
    clear h2 b2
    go_wp2_with fail
    go_ret
    exact ⟨rfl, H2.out, B2.out⟩
  | true =>
    obtain ⟨t, l, rfl, ht⟩ := rIs_true hi
    obtain ⟨b, off, c, e0, hb, hcs⟩ := rs_first h
    have d2 : w.cell? ⟨b, off + 2, none⟩ = some (.string t.2.2.1) := hcs 2 _ rfl
    clear hcs h
    by_cases h6 : 6 < t.2.2.1.size
    · have h6i : (6 : Int) < (t.2.2.1.size : Int) := by omega
      have hk : rKey en (t :: l, none) = ((rWant en (rFail en 20 (t :: l, none)) 1 ⟨#[]⟩).1.2.2.1, (rWant en (rFail en 20 (t :: l, none)) 1 ⟨#[]⟩).2) := by simp [rKey, hi, h6]
      rw [hk]
      have HF := hid (fail_any bx en 20 (t :: l, none) w H.out)
      have HW := hid (fun w h => want_any bx en (rFail en 20 (t :: l, none)) 1 ⟨#[]⟩ w h)
      generalize rWant en (rFail en 20 (t :: l, none)) 1 ⟨#[]⟩ = q at *
      obtain ⟨⟨qa, qb, qc, qd⟩, qr⟩ := q
      go_enter Tryz.func71, Tryz.ntmps71
      go_wp2_with (first | (go_at_call 17; refine (is_any _ _ _ _ _ _ H.out).mono ?_; rintro e w' ⟨rfl, rfl⟩; rw [hi]))
      go_at_call 19
      refine HF.out.mono ?_
      rintro e w2 ⟨rfl, h2, b2⟩
      have H2 := hid h2
      have B2 := hid b2
      clear h2 b2
      go_wp2_with fail
      go_at_call 18
      refine (HW.out _ H2.out).mono ?_
      rintro e w3 ⟨he, h3, b3⟩
      simp only [tokV] at he
      subst he
      have H3 := hid h3
      have B3 : Hid (Beside bx w w3) := B2.out.trans b3
      clear h3 b3
      go_wp2_with fail
      go_ret
      exact ⟨rfl, H3.out, B3.out⟩
    · have h6i : ¬ (6 : Int) < (t.2.2.1.size : Int) := by omega
      have hk : rKey en (t :: l, none) = ((rWant en (t :: l, none) 1 ⟨#[]⟩).1.2.2.1, (rWant en (t :: l, none) 1 ⟨#[]⟩).2) := by simp [rKey, hi, h6]
      rw [hk]
      have HW := hid (want_any bx en (t :: l, none) 1 ⟨#[]⟩ w H.out)
      generalize rWant en (t :: l, none) 1 ⟨#[]⟩ = q at *
      obtain ⟨⟨qa, qb, qc, qd⟩, qr⟩ := q
      go_enter Tryz.func71, Tryz.ntmps71
      go_wp2_with (first | (go_at_call 17; refine (is_any _ _ _ _ _ _ H.out).mono ?_; rintro e w' ⟨rfl, rfl⟩; rw [hi]))
      go_at_call 18
      refine HW.out.mono ?_
      rintro e w2 ⟨he, h2, b2⟩
      simp only [tokV] at he
      subst he
      have H2 := hid h2
      have B2 := hid b2
      clear h2 b2
      go_wp2_with fail
      go_ret
      exact ⟨rfl, H2.out, B2.out⟩
end Go.Proofs.YtegeiojcdjnmjaaGreatDoor
namespace Go.Proofs.YtegeiojcdjnmjaaGreatDoor
set_option linter.unusedVariables false
set_option linter.unusedSimpArgs false
open Go.RowKit

set_option maxHeartbeats 2000000 in
set_option maxRecDepth 100000 in
theorem rword_any (bx g : Nat) (en : Int) (r : Rd) (ws : List ByteArray) (w : World) (hw4 : ws.length ≤ 100) (h : RS bx en w r) (hws : ∀ j x, ws[j]? = some x → w.cell? ⟨g, j, none⟩ = some (.string x)) :
    Calls Tryz.prog 43 #[.pointer (some ⟨bx, 0, none⟩), .slice (some ⟨g, 0, none⟩) ws.length ws.length] w fun e w' => e = .returned (.int .i64 (rWordFrom en r 0 ws).1) ∧ RS bx en w' (rWordFrom en r 0 ws).2 ∧ Beside bx w w' := by
  have H := hid h
  clear h
  go_enter Tryz.func43, Tryz.ntmps43
  go_wp2_with fail
  go_loopg [5, 6, 9] ws.length (fun m _ _ i wr => ∃ k : Nat, k ≤ ws.length ∧ ws.length - k ≤ m ∧ i = .int .i64 k ∧ wr = w ∧ Aside (rWordFrom en r 0 ws = rWordFrom en r k (ws.drop k)))
  case atStart => exact ⟨0, Nat.zero_le _, by omega, rfl, rfl, rfl⟩
  case round =>
    obtain ⟨k, hk, hg, rfl, rfl, HW⟩ := hrel
    by_cases hlt : k < ws.length
    · have hlti : (k : Int) < (ws.length : Int) := by omega
      obtain ⟨x, hx⟩ : ∃ x, ws[k]? = some x := ⟨ws[k], List.getElem?_eq_getElem hlt⟩
      have d := hws k x hx
      have hdrop : ws.drop k = x :: ws.drop (k + 1) := by
        rw [List.drop_eq_getElem_cons hlt]
        rw [List.getElem?_eq_getElem hlt] at hx
        cases hx; rfl
      cases hi : rIs r 1 x with
      | true =>
        have HE : Hid (rWordFrom en r 0 ws = ((k : Int) + 1, (rWant en r 1 x).2)) := by
          show _ = _
          rw [HW.out, hdrop]
          simp only [rWordFrom]
          rw [if_pos hi]
        clear hws hx
        go_wp2_with (first | (go_at_call 17; refine (is_any _ _ _ _ _ _ H.out).mono ?_; rintro e w' ⟨rfl, rfl⟩; rw [hi]))
        go_at_call 18
        refine (want_any _ _ _ _ _ _ H.out).mono ?_
        rintro e w2 ⟨rfl, h2, b2⟩
        have H2 := hid h2
        have B2 := hid b2
        clear h2 b2
        go_wp2_with fail
        rw [HE.out]
        go_ret
        exact ⟨rfl, H2.out, B2.out⟩
      | false =>
        have HE : Hid (rWordFrom en r 0 ws = rWordFrom en r (k + 1) (ws.drop (k + 1))) := by
          show _ = _
          rw [HW.out, hdrop]
          simp only [rWordFrom]
          rw [if_neg (by rw [hi]; decide)]
        have HWS := hid hws
        clear hws hx
        go_wp2_with (first | (go_at_call 17; refine (is_any _ _ _ _ _ _ H.out).mono ?_; rintro e w' ⟨rfl, rfl⟩; rw [hi]))
        go_roundg (ws.length - (k + 1))
        case measure => omega
        case rel => exact ⟨k + 1, by omega, by omega, by go_num, rfl, HE.out⟩
    · have hlti : ¬ (k : Int) < (ws.length : Int) := by omega
      have HE : Hid (rWordFrom en r 0 ws = (0, rFail en 20 r)) := by
        show _ = _
        rw [HW.out, List.drop_eq_nil_of_le (by omega)]
        rfl
      clear hws
      go_wp2_with fail
      go_at_call 19
      refine (fail_any _ _ _ _ _ H.out).mono ?_
      rintro e w2 ⟨rfl, h2, b2⟩
      have H2 := hid h2
      have B2 := hid b2
      clear h2 b2
      go_wp2_with fail
      rw [HE.out]
      go_ret
      exact ⟨rfl, H2.out, B2.out⟩
end Go.Proofs.YtegeiojcdjnmjaaGreatDoor
namespace Go.Proofs.YtegeiojcdjnmjaaGreatDoor
set_option linter.unusedVariables false
set_option linter.unusedSimpArgs false
open Go.RowKit

theorem rs_set {bx g i : Nat} {en : Int} {w : World} {r : Rd} (h : RS bx en w r) (hg : bx < g) (u : Value) : RS bx en (w.setCell ⟨g, i, none⟩ u) r :=
  h.keep ((Below.refl _ _).setCell (p := ⟨g, i, none⟩) hg _)
theorem rs_new {bx : Nat} {en : Int} {w : World} {r : Rd} (h : RS bx en w r) (o : Obj) : RS bx en (w.alloc o) r :=
  h.keep ((below_box w o).mono h.lt)
end Go.Proofs.YtegeiojcdjnmjaaGreatDoor
