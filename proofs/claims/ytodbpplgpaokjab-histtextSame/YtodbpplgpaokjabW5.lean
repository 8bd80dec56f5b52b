/-
  Walks of the reference's Same.
-/
import Derived.Test.YtodbpplgpaokjabW4
import Derived.Deep.RegionHeld3
import Derived.Deep.DrawnRows
namespace Go.Proofs.Ytodbpplgpaokjab
open Go.RowKit
attribute [local go_sem ↓] Go.wp_at_zero Go.wp_at_succ

theorem below_drewN {B : Nat} {w w' : World} (h : Below B w w') (q : Nat) : Below B w (w'.drewN q) := ⟨h.os, h.tape, h.output, h.size, h.block⟩

theorem refOps_lens (a1 a2 : Option Addr) (c1 c2 n m : Nat) (w : World) (hnm : n ≠ m) :
    Calls Try.prog 9 #[.slice a1 n c1, .slice a2 m c2] w fun e w' => e = .returned (.bool false) ∧ Below w.heap.size w w' := by
  have hne : ((n : Int) != (m : Int)) = true := by rw [bne_iff_ne]; omega
  go_enter Try.func9, Try.ntmps9
  go_wp2
  go_ret
  exact ⟨rfl, Below.refl _ _⟩

/-- The reference's SameOps tells whether two lists of operations are the same. -/
theorem refOps_any {S T : Nat → Prop} (v1 v2 : Value) (xs ys : List MOp) (w : World) (h1 : OpsIn S w v1 xs) (h2 : OpsIn T w v2 ys) :
    Calls Try.prog 9 #[v1, v2] w fun e w' => e = .returned (.bool (opsEq xs ys)) ∧ Below w.heap.size w w' := by
  obtain ⟨a1, c1, rfl, l1, k1⟩ := RowsIn.cells h1 (by omega)
  obtain ⟨a2, c2, rfl, l2, k2⟩ := RowsIn.cells h2 (by omega)
  by_cases h : xs.length = ys.length
  · rw [← h] at k2 ⊢
    exact refOps_walk a1 a2 c1 c2 xs.length xs ys w rfl h.symm (by omega) k1 k2
  · rw [show opsEq xs ys = false from allEq_len _ xs ys h]
    exact refOps_lens a1 a2 c1 c2 _ _ w h

theorem evEq_no (X Y : MEv) (h : (X.kind != Y.kind) = true ∨ (X.proc != Y.proc) = true) : evEq X Y = false := by
  unfold evEq
  rcases h with h | h <;> simp only [bne, Bool.not_eq_true'] at h <;> simp only [h, Bool.false_and, Bool.and_false]
theorem evEq_yes (X Y : MEv) (h1 : (X.kind != Y.kind) = false) (h2 : (X.proc != Y.proc) = false) : evEq X Y = opsEq X.ops Y.ops := by
  unfold evEq
  simp only [bne, Bool.not_eq_false'] at h1 h2
  rw [h1, h2]; rfl

set_option maxHeartbeats 4000000 in
theorem refSame_walk {S T : Nat → Prop} (a1 a2 : Option Addr) (c1 c2 n : Nat) (xs ys : List MEv) (w : World) (hx : xs.length = n) (hy : ys.length = n) (_hbig : n ≤ 9223372036854775807)
    (h1 : RowCells 3 (EvRow S w) w a1 xs n) (h2 : RowCells 3 (EvRow T w) w a2 ys n) :
    Calls Try.prog 5 #[.slice a1 n c1, .slice a2 n c2] w fun e w' => e = .returned (.bool (evsEq xs ys)) ∧ Below w.heap.size w w' := by
  have HX : Hid (xs.length = n) := hx
  have HY : Hid (ys.length = n) := hy
  clear hx hy
  go_enter Try.func5, Try.ntmps5
  go_wp2
  go_loopg [5, 13] n (fun g _ i wr => ∃ k : Nat, k ≤ n ∧ n - k ≤ g ∧ i = .int .i64 k ∧ Aside (Below w.heap.size w wr) ∧ Aside (∀ j, j < k → evEq (xs.getD j default) (ys.getD j default) = true))
  case atStart => exact ⟨0, Nat.zero_le _, by omega, rfl, Below.refl _ _, fun j hj => absurd hj (Nat.not_lt_zero _)⟩
  case round =>
    obtain ⟨k, hk, hg, rfl, BW, A⟩ := hrel
    by_cases hlt : k < n
    · have hlti : (k : Int) < (n : Int) := by omega
      obtain ⟨b1, o1, cs1, rfl, hb1, _, ⟨l1, rfl, i1⟩, k1⟩ := h1 k hlt
      obtain ⟨b2, o2, cs2, rfl, hb2, _, ⟨l2, rfl, i2⟩, k2⟩ := h2 k hlt
      clear h1 h2
      have d0 : wr.cell? ⟨b1, o1 + k * 3, none⟩ = _ := (BW.out.cell (p := ⟨b1, o1 + k * 3, none⟩) hb1).trans (k1 0 _ rfl)
      have d1 := (BW.out.cell (p := ⟨b1, o1 + k * 3 + 1, none⟩) hb1).trans (k1 1 _ rfl)
      have d2 := (BW.out.cell (p := ⟨b1, o1 + k * 3 + 2, none⟩) hb1).trans (k1 2 _ rfl)
      have e0 : wr.cell? ⟨b2, o2 + k * 3, none⟩ = _ := (BW.out.cell (p := ⟨b2, o2 + k * 3, none⟩) hb2).trans (k2 0 _ rfl)
      have e1 := (BW.out.cell (p := ⟨b2, o2 + k * 3 + 1, none⟩) hb2).trans (k2 1 _ rfl)
      have e2 := (BW.out.cell (p := ⟨b2, o2 + k * 3 + 2, none⟩) hb2).trans (k2 2 _ rfl)
      clear k1 k2
      have hsz := BW.out.size
      have j1 := i1.keep (keeps_below BW.out) (fun _ _ h => h)
      have j2 := i2.keep (keeps_below BW.out) (fun _ _ h => h)
      clear i1 i2
      generalize hX : xs.getD k default = X at *
      generalize hY : ys.getD k default = Y at *
      have HX' := hid hX
      have HY' := hid hY
      clear hX hY
      obtain ⟨al1, cl1, rfl, -⟩ := id j1
      obtain ⟨al2, cl2, rfl, -⟩ := id j2
      obtain ⟨xk, xp, xl⟩ := X
      obtain ⟨yk, yp, yl⟩ := Y
      simp only [MEv.kind, MEv.proc, MEv.ops] at *
      cases q1 : (xk != yk)
      rotate_left
      · go_wp2_with fail
        go_quiet (fail)
        go_wp2_with fail
        go_ret
        refine ⟨?_, below_drewN BW.out _⟩
        rw [show evsEq xs ys = false from allEq_miss _ xs ys k (by rw [HX.out]; exact hlt) (by rw [HX'.out, HY'.out]; exact evEq_no _ _ (.inl q1))]
        rfl
      cases q2 : (xp != yp)
      rotate_left
      · go_wp2_with fail
        go_quiet (fail)
        go_wp2_with fail
        go_ret
        refine ⟨?_, below_drewN BW.out _⟩
        rw [show evsEq xs ys = false from allEq_miss _ xs ys k (by rw [HX.out]; exact hlt) (by rw [HX'.out, HY'.out]; exact evEq_no _ _ (.inr q2))]
        rfl
      have HE := hid (evEq_yes ⟨xk, xp, xl⟩ ⟨yk, yp, yl⟩ q1 q2)
      have H : Hid (∀ W, Below wr.heap.size wr W → Calls Try.prog 9 #[.slice al1 xl.length cl1, .slice al2 yl.length cl2] W fun e w' => e = .returned (.bool (opsEq xl yl)) ∧ Below wr.heap.size wr w') := fun W hW =>
        (refOps_any _ _ xl yl W (j1.keep (keeps_below hW) (fun _ _ h => h)) (j2.keep (keeps_below hW) (fun _ _ h => h))).mono fun e w' ⟨he, hb⟩ => ⟨he, hW.trans (hb.mono hW.size)⟩
      clear j1 j2
      have hb1r : b1 < wr.heap.size := Nat.lt_of_lt_of_le hb1 hsz
      have hb2r : b2 < wr.heap.size := Nat.lt_of_lt_of_le hb2 hsz
      generalize hq : opsEq xl yl = r at H
      have HQ := hid hq
      clear hq
      go_wp2_with fail
      go_region_held3 (fun w' => w'.cell? ⟨b1, o1 + k * 3, none⟩ = some (.int .i64 xk) ∧ w'.cell? ⟨b1, o1 + k * 3 + 1, none⟩ = some (.int .i64 xp) ∧ w'.cell? ⟨b1, o1 + k * 3 + 2, none⟩ = some (.slice al1 xl.length cl1) ∧ w'.cell? ⟨b2, o2 + k * 3, none⟩ = some (.int .i64 yk) ∧ w'.cell? ⟨b2, o2 + k * 3 + 1, none⟩ = some (.int .i64 yp) ∧ w'.cell? ⟨b2, o2 + k * 3 + 2, none⟩ = some (.slice al2 yl.length cl2)) (first | go_keep | exact ⟨(hb.cell (p := ⟨b1, o1 + k * 3, none⟩) hb1r).trans d0, (hb.cell (p := ⟨b1, o1 + k * 3 + 1, none⟩) hb1r).trans d1, (hb.cell (p := ⟨b1, o1 + k * 3 + 2, none⟩) hb1r).trans d2, (hb.cell (p := ⟨b2, o2 + k * 3, none⟩) hb2r).trans e0, (hb.cell (p := ⟨b2, o2 + k * 3 + 1, none⟩) hb2r).trans e1, (hb.cell (p := ⟨b2, o2 + k * 3 + 2, none⟩) hb2r).trans e2⟩) ((go_at_call 9; refine (H.out _ (by repeat (first | exact Below.refl _ _ | apply Below.drew | apply below_drewN))).mono ?_; rintro e w' ⟨rfl, hb⟩))
      cases r with
      | false =>
        go_wp2_with fail
        go_ret
        refine ⟨?_, BW.out.trans (hb.mono hsz)⟩
        rw [show evsEq xs ys = false from allEq_miss _ xs ys k (by rw [HX.out]; exact hlt) (by rw [HX'.out, HY'.out]; exact HE.out.trans HQ.out)]
        rfl
      | true =>
        go_wp2_with fail
        go_roundg (n - (k + 1))
        case measure => omega
        case rel =>
          refine ⟨k + 1, by omega, by omega, by go_num, BW.out.trans (hb.mono hsz), (show Aside _ from fun j hj => ?_)⟩
          by_cases e : j = k
          · subst e; rw [HX'.out, HY'.out]; exact HE.out.trans HQ.out
          · exact A.out j (by omega)
    · go_wp2
      go_ret
      refine ⟨?_, BW.out⟩
      rw [show evsEq xs ys = true from allEq_hit _ xs ys (by rw [HX.out, HY.out]) (fun j hj => A.out j (by rw [HX.out] at hj; omega))]
      rfl
theorem refSame_lens (a1 a2 : Option Addr) (c1 c2 n m : Nat) (w : World) (hnm : n ≠ m) :
    Calls Try.prog 5 #[.slice a1 n c1, .slice a2 m c2] w fun e w' => e = .returned (.bool false) ∧ Below w.heap.size w w' := by
  have hne : ((n : Int) != (m : Int)) = true := by rw [bne_iff_ne]; omega
  go_enter Try.func5, Try.ntmps5
  go_wp2
  go_ret
  exact ⟨rfl, Below.refl _ _⟩

/-- The reference's Same tells whether two histories are the same. -/
theorem refSame_any {S T : Nat → Prop} (v1 v2 : Value) (xs ys : List MEv) (w : World) (h1 : EvsIn S w v1 xs) (h2 : EvsIn T w v2 ys) :
    Calls Try.prog 5 #[v1, v2] w fun e w' => e = .returned (.bool (evsEq xs ys)) ∧ Below w.heap.size w w' := by
  obtain ⟨a1, c1, rfl, l1, k1⟩ := RowsIn.cells h1 (by omega)
  obtain ⟨a2, c2, rfl, l2, k2⟩ := RowsIn.cells h2 (by omega)
  by_cases h : xs.length = ys.length
  · rw [← h] at k2 ⊢
    exact refSame_walk a1 a2 c1 c2 xs.length xs ys w rfl h.symm (by omega) k1 k2
  · rw [show evsEq xs ys = false from allEq_len _ xs ys h]
    exact refSame_lens a1 a2 c1 c2 _ _ w h
end Go.Proofs.Ytodbpplgpaokjab
