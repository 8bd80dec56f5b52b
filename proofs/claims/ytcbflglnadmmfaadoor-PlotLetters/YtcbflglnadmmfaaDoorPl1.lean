/-
  The spiral's walk: one step of it, and its beginning.
-/
import Derived.Test.YtcbflglnadmmfaaDoorPl0
namespace Go.Proofs.YtcbflglnadmmfaaDoor
set_option linter.unusedVariables false
set_option linter.unusedSimpArgs false
open Go.RowKit

/-- Four variables in blocks of their own. -/
structure Fo (B : Nat) (w : World) (ba bs bl bt : Nat) (A S L T : Value) : Prop where
  a : w.heap[ba]? = some (.cells #[A] 33)
  s : w.heap[bs]? = some (.cells #[S] 33)
  l : w.heap[bl]? = some (.cells #[L] 3)
  t : w.heap[bt]? = some (.cells #[T] 3)
  ne : ba ≠ bs ∧ ba ≠ bl ∧ ba ≠ bt ∧ bs ≠ bl ∧ bs ≠ bt ∧ bl ≠ bt
  hi : B ≤ ba ∧ B ≤ bs ∧ B ≤ bl ∧ B ≤ bt
section
variable {B : Nat} {w w' : World} {ba bs bl bt : Nat} {A S L T : Value}
theorem Fo.setA (h : Fo B w ba bs bl bt A S L T) (v : Value) : Fo B (w.setCell ⟨ba, 0, none⟩ v) ba bs bl bt v S L T :=
  ⟨by rw [Go.Joins.block_setCell h.a v]; rfl, (set_ne h.ne.1.symm).trans h.s, (set_ne h.ne.2.1.symm).trans h.l, (set_ne h.ne.2.2.1.symm).trans h.t, h.ne, h.hi⟩
theorem Fo.setS (h : Fo B w ba bs bl bt A S L T) (v : Value) : Fo B (w.setCell ⟨bs, 0, none⟩ v) ba bs bl bt A v L T :=
  ⟨(set_ne h.ne.1).trans h.a, by rw [Go.Joins.block_setCell h.s v]; rfl, (set_ne h.ne.2.2.2.1.symm).trans h.l, (set_ne h.ne.2.2.2.2.1.symm).trans h.t, h.ne, h.hi⟩
theorem Fo.setL (h : Fo B w ba bs bl bt A S L T) (v : Value) : Fo B (w.setCell ⟨bl, 0, none⟩ v) ba bs bl bt A S v T :=
  ⟨(set_ne h.ne.2.1).trans h.a, (set_ne h.ne.2.2.2.1).trans h.s, by rw [Go.Joins.block_setCell h.l v]; rfl, (set_ne h.ne.2.2.2.2.2.symm).trans h.t, h.ne, h.hi⟩
theorem Fo.setT (h : Fo B w ba bs bl bt A S L T) (v : Value) : Fo B (w.setCell ⟨bt, 0, none⟩ v) ba bs bl bt A S L v :=
  ⟨(set_ne h.ne.2.2.1).trans h.a, (set_ne h.ne.2.2.2.2.1).trans h.s, (set_ne h.ne.2.2.2.2.2).trans h.l, by rw [Go.Joins.block_setCell h.t v]; rfl, h.ne, h.hi⟩
theorem Fo.ca (h : Fo B w ba bs bl bt A S L T) : w.cell? ⟨ba, 0, none⟩ = some A := Lib.cell_of_heap h.a 0
theorem Fo.cs (h : Fo B w ba bs bl bt A S L T) : w.cell? ⟨bs, 0, none⟩ = some S := Lib.cell_of_heap h.s 0
theorem Fo.cl (h : Fo B w ba bs bl bt A S L T) : w.cell? ⟨bl, 0, none⟩ = some L := Lib.cell_of_heap h.l 0
theorem Fo.ct (h : Fo B w ba bs bl bt A S L T) : w.cell? ⟨bt, 0, none⟩ = some T := Lib.cell_of_heap h.t 0
theorem Fo.fa (h : Fo B w ba bs bl bt A S L T) : w.frozen? ⟨ba, 0, none⟩ = false := Lib.frozen_of_heap h.a 0
theorem Fo.fs (h : Fo B w ba bs bl bt A S L T) : w.frozen? ⟨bs, 0, none⟩ = false := Lib.frozen_of_heap h.s 0
theorem Fo.fl (h : Fo B w ba bs bl bt A S L T) : w.frozen? ⟨bl, 0, none⟩ = false := Lib.frozen_of_heap h.l 0
theorem Fo.ft (h : Fo B w ba bs bl bt A S L T) : w.frozen? ⟨bt, 0, none⟩ = false := Lib.frozen_of_heap h.t 0
theorem Fo.same (h : Fo B w ba bs bl bt A S L T) (hs : ∀ b, b = ba ∨ b = bs ∨ b = bl ∨ b = bt → w'.heap[b]? = w.heap[b]?) : Fo B w' ba bs bl bt A S L T :=
  ⟨(hs _ (by simp)).trans h.a, (hs _ (by simp)).trans h.s, (hs _ (by simp)).trans h.l, (hs _ (by simp)).trans h.t, h.ne, h.hi⟩
theorem Fo.lt (h : Fo B w ba bs bl bt A S L T) : ba < w.heap.size ∧ bs < w.heap.size ∧ bl < w.heap.size ∧ bt < w.heap.size := ⟨blt h.a, blt h.s, blt h.l, blt h.t⟩
theorem Fo.later (h : Fo B w ba bs bl bt A S L T) (hb : Below w.heap.size w w') : Fo B w' ba bs bl bt A S L T := h.same fun b hb' => hb.block b (by
  have := h.lt
  rcases hb' with rfl | rfl | rfl | rfl <;> omega)
end
/-- The walk, having told so many places. -/
def Wk (B : Nat) (w : World) (ba bs bl bt k : Nat) : Prop := Fo B w ba bs bl bt (.complex .f64 (spA k).ax (spA k).ay) (.complex .f64 (spA k).sx (spA k).sy) (.int .i64 (spA k).left) (.int .i64 (spA k).turns)
/-- All blocks but the walk's four stay. -/
structure But (w w' : World) (ba bs bl bt : Nat) : Prop where
  os : w'.os = w.os
  tape : w'.tape = w.tape
  output : w'.output = w.output
  size : w'.heap.size = w.heap.size
  block : ∀ b, b ≠ ba → b ≠ bs → b ≠ bl → b ≠ bt → w'.heap[b]? = w.heap[b]?
theorem But.refl (w : World) (ba bs bl bt : Nat) : But w w ba bs bl bt := ⟨rfl, rfl, rfl, rfl, fun _ _ _ _ _ => rfl⟩
theorem set_size (w : World) (p : Addr) (v : Value) : (w.setCell p v).heap.size = w.heap.size := by unfold World.setCell; simp
theorem But.set {w w' : World} {ba bs bl bt : Nat} (h : But w w' ba bs bl bt) (p : Addr) (v : Value) (hp : p.block = ba ∨ p.block = bs ∨ p.block = bl ∨ p.block = bt) : But w (w'.setCell p v) ba bs bl bt :=
  ⟨h.os, h.tape, h.output, (set_size _ _ _).trans h.size, fun b h1 h2 h3 h4 => (set_ne (by rcases hp with e | e | e | e <;> rw [e] <;> assumption)).trans (h.block b h1 h2 h3 h4)⟩
theorem But.below {w w' : World} {ba bs bl bt B : Nat} (h : But w w' ba bs bl bt) (hi : B ≤ ba ∧ B ≤ bs ∧ B ≤ bl ∧ B ≤ bt) : Below B w w' :=
  ⟨h.os, h.tape, h.output, Nat.le_of_eq h.size.symm, fun b hb => h.block b (by omega) (by omega) (by omega) (by omega)⟩

theorem store_c (P : Program) (w : World) (a : Addr) (m : Mode) (x y : Nat) : (store a (.complex .f64 x y) m).run P w = stored P w a (.complex .f64 x y) m := run_store P w a _ m rfl
set_option maxHeartbeats 4000000 in
set_option maxRecDepth 100000 in
theorem next_is {B : Nat} {w : World} {ba bs bl bt k : Nat} (h : Wk B w ba bs bl bt k) (hk : k ≤ 100) :
    Calls Tryd.prog 21 #[.pointer (some ⟨ba, 0, none⟩), .pointer (some ⟨bs, 0, none⟩), .pointer (some ⟨bl, 0, none⟩), .pointer (some ⟨bt, 0, none⟩)] w fun e w' =>
      e = .returned (.complex .f64 (spA k).ax (spA k).ay) ∧ Wk B w' ba bs bl bt (k + 1) ∧ But w w' ba bs bl bt := by
  obtain ⟨h1, h2, h3, h4, h5, h6, -, -⟩ := sp_facts k hk
  have HN : Hid (∀ w' : World, Fo B w' ba bs bl bt (.complex .f64 (spA (k + 1)).ax (spA (k + 1)).ay) (.complex .f64 (spA (k + 1)).sx (spA (k + 1)).sy) (.int .i64 (spA (k + 1)).left) (.int .i64 (spA (k + 1)).turns) → Wk B w' ba bs bl bt (k + 1)) := fun w' h => h
  unfold Wk at h
  generalize spA (k + 1) = s' at *
  generalize spA k = s at *
  obtain ⟨⟨ax, ay⟩, ⟨sx, sy⟩, l, t⟩ := s
  obtain ⟨⟨ax', ay'⟩, ⟨sx', sy'⟩, l', t'⟩ := s'
  simp only [Sp.ax, Sp.ay, Sp.sx, Sp.sy, Sp.left, Sp.turns] at *
  have hsum := fun (w : World) => run_complex_sum (P := Tryd.prog) w .add (.inl rfl) 33 .f64 ax ay sx sy ax' ay' h1
  have hst := store_c Tryd.prog
  have H := hid h
  have ca := h.ca
  have cs := h.cs
  have fa := h.fa
  have F1 := hid (h.setA (.complex .f64 ax' ay'))
  have cl1 := F1.out.cl
  have fl1 := F1.out.fl
  by_cases hl : l = 1
  · obtain ⟨m1, m2, m3⟩ := h2 hl
    subst hl
    have hmul := fun (w : World) => run_complex_mul (P := Tryd.prog) w 33 sx sy 0 one sx' sy' m1
    subst m2
    subst m3
    clear h h1 h2 h3 m1
    have F2 := hid (F1.out.setL (.int .i64 (0 : Int)))
    have cl2 := F2.out.cl
    have G2 := hid (((But.refl w ba bs bl bt).set ⟨ba, 0, none⟩ (.complex .f64 ax' ay') (by simp)).set ⟨bl, 0, none⟩ (.int .i64 (0 : Int)) (by simp))
    have cs2 := F2.out.cs
    have fs2 := F2.out.fs
    have F3 := hid (F2.out.setS (.complex .f64 sx' sy'))
    have ct3 := F3.out.ct
    have ft3 := F3.out.ft
    have F4 := hid (F3.out.setT (.int .i64 ((t : Int) + 1)))
    have ct4 := F4.out.ct
    have fl4 := F4.out.fl
    have cl4 := F4.out.cl
    have F5 := hid (F4.out.setL (.int .i64 (1 + ((t : Int) + 1) / 2)))
    have G5 := hid (((G2.out.set ⟨bs, 0, none⟩ (.complex .f64 sx' sy') (by simp)).set ⟨bt, 0, none⟩ (.int .i64 ((t : Int) + 1)) (by simp)).set ⟨bl, 0, none⟩ (.int .i64 (1 + ((t : Int) + 1) / 2)) (by simp))
    have ht0 : wrap64 ((t : Int) + 1) = (t : Int) + 1 := by unfold wrap64; omega
    have hd0 : wrap64 (((t : Int) + 1).tdiv 2) = ((t : Int) + 1) / 2 := by
      rw [Int.tdiv_eq_ediv_of_nonneg (by omega)]; unfold wrap64; omega
    have hd1 : wrap64 (1 + ((t : Int) + 1) / 2) = 1 + ((t : Int) + 1) / 2 := by unfold wrap64; omega
    have he : Hid (((1 + (t + 1) / 2 : Nat) : Int) = 1 + ((t : Int) + 1) / 2) := by show _ = _; omega
    have he2 : Hid (((t + 1 : Nat) : Int) = (t : Int) + 1) := by show _ = _; omega
    go_enter Tryd.func21, Tryd.ntmps21
    go_wp2_with fail
    go_ret
    exact ⟨rfl, HN.out _ (by rw [he.out, he2.out]; exact F5.out), G5.out⟩
  · obtain ⟨m1, m2, m3, m4⟩ := h3 hl
    subst m1 m2 m3
    have hl2 : ((l : Int) - 1 == 0) = false := by simp; omega
    have hl3 : ¬ ((l : Int) - 1 = 0) := by omega
    have F2 := hid (F1.out.setL (.int .i64 ((l : Int) - 1)))
    have cl2 := F2.out.cl
    have G2 := hid (((But.refl w ba bs bl bt).set ⟨ba, 0, none⟩ (.complex .f64 ax' ay') (by simp)).set ⟨bl, 0, none⟩ (.int .i64 ((l : Int) - 1)) (by simp))
    have hl0 : wrap64 ((l : Int) - 1) = (l : Int) - 1 := by unfold wrap64; omega
    clear h h1 h2 h3
    go_enter Tryd.func21, Tryd.ntmps21
    go_wp2_with fail
    go_ret
    exact ⟨rfl, HN.out _ (by rw [m4, (by omega : ((l - 1 : Nat) : Int) = (l : Int) - 1)]; exact F2.out), G2.out⟩
end Go.Proofs.YtcbflglnadmmfaaDoor
