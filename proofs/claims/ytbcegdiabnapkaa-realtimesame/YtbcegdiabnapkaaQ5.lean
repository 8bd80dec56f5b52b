/-
  firstBehind: how many starts a transaction is not before.
-/
import Derived.Test.YtbcegdiabnapkaaQ4
namespace Go.Proofs.Ytbcegdiabnapkaa
set_option linter.unusedVariables false
set_option linter.unusedSimpArgs false
open Go.RowKit Go.Lib

theorem before_grown (ap ast af att : Int) (ao : Value) (bp bst bf btt : Int) (bo : Value) (r : Bool) (hr : bef (ap, ast, af, att, ao) (bp, bst, bf, btt, bo) = r) (w : World) :
    Calls Try.prog 10 #[.agg #[.int .i64 ap, .int .i64 ast, .int .i64 af, .int .i64 att, ao], .agg #[.int .i64 bp, .int .i64 bst, .int .i64 bf, .int .i64 btt, bo]] w fun e w' => e = .returned (.bool r) ∧ ∃ q os, w' = Sort.grow (w.drewN q) os :=
  (before_is (ap, ast, af, att, ao) (bp, bst, bf, btt, bo) w).mono fun e w' ⟨he, os, hw⟩ => ⟨by rw [he, hr], 0, os, hw⟩

set_option maxHeartbeats 4000000 in
set_option maxRecDepth 100000 in
/-- firstBehind$1 -/
theorem behind_is (p0 p1 p2 c n cs q : Nat) (ao so : Option Addr) (f : Nat → LT) (h : Nat → Int × Int) (T1 : Nat) (X : LT) (i : Nat) (W : World) (hi : i < q) (hT : (h i).1 = (T1 : Int)) (hTn : T1 < n)
    (h0 : W.cell? ⟨p0, 0, none⟩ = some (.slice ao n c)) (h1 : Bx W p1 X) (hov : IsSl X.ov) (h2 : W.cell? ⟨p2, 0, none⟩ = some (.slice so q cs)) (hl : Lt W ao n f) (hs : Ls W so q h) :
    Calls Try.prog 36 #[.int .i64 i, .pointer (some ⟨p1, 0, none⟩), .pointer (some ⟨p0, 0, none⟩), .pointer (some ⟨p2, 0, none⟩)] W fun e w' => e = .returned (.bool (bef X (f T1))) ∧ ∃ q os, w' = Sort.grow (W.drewN q) os := by
  have l0 : p0 < W.heap.size := World.block_lt_of_cell? _ _ h0
  have l2 : p2 < W.heap.size := World.block_lt_of_cell? _ _ h2
  have l1 := h1.1
  obtain ⟨bs, os, rfl, lbs, s1, -⟩ := hs i hi
  rw [hT] at s1
  obtain ⟨b, o, rfl, lb, ⟨ya, yn, yc, hy⟩, d0, d1, d2, d3, d4⟩ := hl.five T1 hTn
  obtain ⟨a0, a1, a2, a3, a4⟩ := h1.five
  obtain ⟨xa, xn, xc, hx⟩ := hov
  obtain ⟨R, hR⟩ : ∃ R, bef X (f T1) = R := ⟨_, rfl⟩
  rw [hR]
  generalize f T1 = Y at *
  obtain ⟨xp, xs, xf, xt, xv⟩ := X
  obtain ⟨yp, ys, yf, yt, yv⟩ := Y
  simp only [LT.proc, LT.state, LT.since, LT.till, LT.ov] at d0 d1 d2 d3 d4 a0 a1 a2 a3 a4 hx hy
  subst hx hy
  have g0 : ∀ n os, (Sort.grow (W.drewN n) os).cell? ⟨p0, 0, none⟩ = _ := cell_grown l0 h0
  have g2 : ∀ n os, (Sort.grow (W.drewN n) os).cell? ⟨p2, 0, none⟩ = _ := cell_grown l2 h2
  have gs : ∀ n' os', (Sort.grow (W.drewN n') os').cell? ⟨bs, os + i * 2, none⟩ = _ := cell_grown lbs s1
  have e0 : ∀ n os, (Sort.grow (W.drewN n) os).cell? ⟨b, o + T1 * 5, none⟩ = _ := cell_grown lb d0
  have e1 : ∀ n os, (Sort.grow (W.drewN n) os).cell? ⟨b, o + T1 * 5 + 1, none⟩ = _ := cell_grown lb d1
  have e2 : ∀ n os, (Sort.grow (W.drewN n) os).cell? ⟨b, o + T1 * 5 + 2, none⟩ = _ := cell_grown lb d2
  have e3 : ∀ n os, (Sort.grow (W.drewN n) os).cell? ⟨b, o + T1 * 5 + 3, none⟩ = _ := cell_grown lb d3
  have e4 : ∀ n os, (Sort.grow (W.drewN n) os).cell? ⟨b, o + T1 * 5 + 4, none⟩ = _ := cell_grown lb d4
  have c0 : ∀ n os, (Sort.grow (W.drewN n) os).cell? ⟨p1, 0, none⟩ = _ := cell_grown l1 a0
  have c1 : ∀ n os, (Sort.grow (W.drewN n) os).cell? ⟨p1, 1, none⟩ = _ := cell_grown l1 a1
  have c2 : ∀ n os, (Sort.grow (W.drewN n) os).cell? ⟨p1, 2, none⟩ = _ := cell_grown l1 a2
  have c3 : ∀ n os, (Sort.grow (W.drewN n) os).cell? ⟨p1, 3, none⟩ = _ := cell_grown l1 a3
  have c4 : ∀ n os, (Sort.grow (W.drewN n) os).cell? ⟨p1, 4, none⟩ = _ := cell_grown l1 a4
  have hii : (i : Int) < (q : Int) := by omega
  have hti : (T1 : Int) < (n : Int) := by omega
  have HB : Hid (∀ w', Calls Try.prog 10 #[.agg #[.int .i64 xp, .int .i64 xs, .int .i64 xf, .int .i64 xt, .slice xa xn xc], .agg #[.int .i64 yp, .int .i64 ys, .int .i64 yf, .int .i64 yt, .slice ya yn yc]] w' fun e w'' => e = .returned (.bool R) ∧ ∃ q os, w'' = Sort.grow (w'.drewN q) os) := fun w' => before_grown _ _ _ _ _ _ _ _ _ _ R hR w'
  have mixed : Try.prog.follows .mixedOrders = true := by kernel_rfl
  clear h0 h1 h2 hl hs hR s1 d0 d1 d2 d3 d4 a0 a1 a2 a3 a4
  go_enter Try.func36, Try.ntmps36
  go_wp2_with fail
  refine wp_region_quiet_grown (by assumption) (by kernel_rfl) ?_
  repeat (go_big_quiet_step (first | (go_at_call 10; exact Calls.grown_of (HB.out _))))
  refine wpQuiet_nil ?_
  intro w9 hw9
  obtain ⟨⟨nq, osq⟩, hw8⟩ := hw9
  subst hw8
  go_wp2_with fail
  go_ret
  exact ⟨rfl, nq, osq, rfl⟩

theorem three_grown (w : World) (A B C : Obj) (q : Nat) (os : Array Obj) : Sort.grow ((((w.alloc A).alloc B).alloc C).drewN q) os = Sort.grow (w.drewN q) (#[A, B, C] ++ os) := by
  rw [Sort.alloc_eq_grow, Sort.alloc_eq_grow, Sort.alloc_eq_grow, Sort.grow_grow, Sort.grow_grow]
  show Sort.grow (Sort.grow (w.drewN q) _) os = _
  rw [Sort.grow_grow]
  rfl

set_option maxHeartbeats 4000000 in
set_option maxRecDepth 100000 in
theorem firstBehind_is (ao so : Option Addr) (c cs n q : Nat) (f : Nat → LT) (h : Nat → Int × Int) (t : Nat → Nat) (X : LT) (w : World) (hT : ∀ i, i < q → (h i).1 = (t i : Int)) (htn : ∀ i, i < q → t i < n) (hov : IsSl X.ov) (hl : Lt w ao n f) (hs : Ls w so q h) (hq : q ≤ 40)
    (hmono : ∀ i j, i ≤ j → j < q → bef X (f (t i)) = true → bef X (f (t j)) = true) :
    Calls Try.prog 26 #[.slice ao n c, .agg (encT X).toArray, .slice so q cs] w fun e w' => e = .returned (.int .i64 ((List.range q).countP (fun i => !bef X (f (t i))) : Nat)) ∧ ∃ m os, w' = Sort.grow (w.drewN m) os := by
  obtain ⟨xp, xs, xf, xt, xv⟩ := X
  obtain ⟨xa, xn, xc, hx⟩ := id hov
  simp only [LT.ov] at hx
  subst hx
  obtain ⟨R, hR⟩ : ∃ R, (List.range q).countP (fun i => !bef (xp, xs, xf, xt, .slice xa xn xc) (f (t i))) = R := ⟨_, rfl⟩
  rw [hR]
  obtain ⟨w3, hw3⟩ : ∃ w3, (((w.alloc (.cells #[.slice ao n c] 22)).alloc (.cells #[.int .i64 xp, .int .i64 xs, .int .i64 xf, .int .i64 xt, .slice xa xn xc] 26)).alloc (.cells #[.slice so q cs] 47)) = w3 := ⟨_, rfl⟩
  have hb : Hid (Below w.heap.size w w3) := by
    show Below _ _ _
    rw [← hw3]
    exact ((((Below.refl _ w).alloc (Nat.le_refl _) _).alloc (by simp) _).alloc (by simp; omega) _)
  have h0 : w3.cell? ⟨w.heap.size, 0, none⟩ = some (.slice ao n c) := by
    rw [← hw3, World.cell?_alloc_lt _ _ _ (by simp; omega), World.cell?_alloc_lt _ _ _ (by simp)]
    simp
  have h1 : Bx w3 (w.heap.size + 1) (xp, xs, xf, xt, .slice xa xn xc) := by
    rw [← hw3]
    have := Bx.made (w.alloc (.cells #[.slice ao n c] 22)) (xp, xs, xf, xt, .slice xa xn xc) 26
    rw [show (w.alloc (.cells #[.slice ao n c] 22)).heap.size = w.heap.size + 1 by simp] at this
    exact this.later ((Below.refl _ _).alloc (Nat.le_refl _) _)
  have h2 : w3.cell? ⟨w.heap.size + 1 + 1, 0, none⟩ = some (.slice so q cs) := by
    rw [← hw3, World.cell?_alloc_at _ _ _ _ (by simp)]
    rfl
  have C : Hid (Calls Try.prog 35 #[.int .i64 q, .func (.func 36) #[] #[.pointer (some ⟨w.heap.size + 1, 0, none⟩), .pointer (some ⟨w.heap.size, 0, none⟩), .pointer (some ⟨w.heap.size + 1 + 1, 0, none⟩)]] w3 fun e w' => e = .returned (.int .i64 (R : Nat)) ∧ ∃ m os, w' = Sort.grow (w3.drewN m) os) := by
    have := Any.sort_Search Try.search35 36 #[.pointer (some ⟨w.heap.size + 1, 0, none⟩), .pointer (some ⟨w.heap.size, 0, none⟩), .pointer (some ⟨w.heap.size + 1 + 1, 0, none⟩)] q (fun i => bef (xp, xs, xf, xt, .slice xa xn xc) (f (t i))) w3 (enters_of Try.func36 (by kernel_rfl) rfl) (by omega) (fun m os i hi => by
      have hg := below_grown_sl w3.heap.size w3 m os (Nat.le_refl _)
      exact behind_is w.heap.size (w.heap.size + 1) (w.heap.size + 1 + 1) c n cs q ao so f h (t i) (xp, xs, xf, xt, .slice xa xn xc) i _ hi (hT i hi) (htn i hi) ((hg.cell (p := ⟨w.heap.size, 0, none⟩) (World.block_lt_of_cell? _ _ h0)).trans h0) (h1.later hg) hov ((hg.cell (p := ⟨w.heap.size + 1 + 1, 0, none⟩) (World.block_lt_of_cell? _ _ h2)).trans h2) ((hl.later hb.out).later hg) ((hs.later hb.out).later hg)) hmono
    rw [hR] at this
    exact this
  have TG : Hid (∀ m os, Sort.grow (w3.drewN m) os = Sort.grow (w.drewN m) (#[.cells #[.slice ao n c] 22, .cells #[.int .i64 xp, .int .i64 xs, .int .i64 xf, .int .i64 xt, .slice xa xn xc] 26, .cells #[.slice so q cs] 47] ++ os)) := fun m os => by rw [← hw3]; exact three_grown _ _ _ _ _ _
  clear h0 h1 hl hs hT htn hmono hR hov
  show Calls Try.prog 26 #[.slice ao n c, .agg #[.int .i64 xp, .int .i64 xs, .int .i64 xf, .int .i64 xt, .slice xa xn xc], .slice so q cs] w _
  go_enter Try.func26, Try.ntmps26
  go_wp2_with fail
  go_at_call 35
  refine C.out.mono ?_
  rintro e w5 ⟨rfl, m, os, rfl⟩
  go_wp2_with fail
  go_ret
  exact ⟨rfl, _, _, TG.out m os⟩
end Go.Proofs.Ytbcegdiabnapkaa
