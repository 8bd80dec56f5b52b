/-
  Walks of assayerplain's SameEvents and of what it calls.
  Which histories may be: the plain part; walks of the code's canOp, canEvent and Can and of the reference's MayOp.
  Walk of the code's canOp.
  Walks of the code's canEvent and Can.
-/
import Derived.Test.YtegeiojcdjnmjaaGreatDoorL8
import Derived.Deep.QuietTactic
import Derived.BigQuiet
import Derived.Outline
import Derived.Test.YtegeiojcdjnmjaaGreatDoorL7
import Derived.Lib.Builder
namespace Go.Proofs.YtegeiojcdjnmjaaGreatDoor
set_option linter.unusedVariables false
set_option linter.unusedSimpArgs false
open Go.RowKit

/-- The int at each place of a slice of length n. -/
def IntCells (w : World) (ao : Option Addr) (xs : List Int) (n : Nat) : Prop := ∀ j, j < n → ∃ b o, ao = some ⟨b, o, none⟩ ∧ w.cell? ⟨b, o + j, none⟩ = some (.int .i64 (xs.getD j default))

theorem IntsIn.cells {S : Nat → Prop} {w : World} {v : Value} {l : List Int} (h : IntsIn S w v l) : ∃ ao c, v = .slice ao l.length c ∧ l.length * 8 ≤ 140737488355328 ∧ IntCells w ao l l.length := by
  obtain ⟨ao, c, hv, hl, hc⟩ := h
  refine ⟨ao, c, hv, hl, fun j hj => ?_⟩
  obtain ⟨b, off, ha, _, hcc⟩ := hc (by omega)
  exact ⟨b, off, ha, hcc j hj⟩

set_option maxHeartbeats 400000 in
theorem slicesEqual_walk (a1 a2 : Option Addr) (c1 c2 n : Nat) (xs ys : List Int) (w : World) (hx : xs.length = n) (hy : ys.length = n) (_hbig : n ≤ 9223372036854775807)
    (h1 : IntCells w a1 xs n) (h2 : IntCells w a2 ys n) :
    Calls Tryz.prog 47 #[.slice a1 n c1, .slice a2 n c2] w fun e w' => e = .returned (.bool (intsEq xs ys)) ∧ Below w.heap.size w w' := by
  have HX : Hid (xs.length = n) := hx
  have HY : Hid (ys.length = n) := hy
  clear hx hy
  go_enter Tryz.func47, Tryz.ntmps47
  go_wp2
  go_loopg [5, 13] n (fun g _ i wr => ∃ k : Nat, k ≤ n ∧ n - k ≤ g ∧ i = .int .i64 k ∧ Aside (∃ q, wr = w.drewN q) ∧ Aside (∀ j, j < k → (xs.getD j default == ys.getD j default) = true))
  case atStart => exact ⟨0, Nat.zero_le _, by omega, rfl, ⟨0, rfl⟩, fun j hj => absurd hj (Nat.not_lt_zero _)⟩
  case round =>
    obtain ⟨k, hk, hg, rfl, ⟨q, rfl⟩, A⟩ := hrel
    by_cases hlt : k < n
    · have hlti : (k : Int) < (n : Int) := by omega
      obtain ⟨b1, o1, rfl, k1⟩ := h1 k hlt
      obtain ⟨b2, o2, rfl, k2⟩ := h2 k hlt
      clear h1 h2
      generalize hX : xs.getD k default = X at k1
      generalize hY : ys.getD k default = Y at k2
      have HX' : Hid (xs.getD k default = X) := hX
      have HY' : Hid (ys.getD k default = Y) := hY
      clear hX hY
      cases hq : (X == Y) with
      | true =>
        have hne : (X != Y) = false := by simp [bne, hq]
        have HQ : Hid ((X == Y) = true) := hq
        clear hq
        go_wp2
        go_quiet (fail)
        go_wp2
        go_roundg (n - (k + 1))
        case measure => omega
        case rel =>
          refine ⟨k + 1, by omega, by omega, by go_num, ⟨_, rfl⟩, (show Aside _ from fun j hj => ?_)⟩
          by_cases e : j = k
          · subst e; rw [HX'.out, HY'.out]; exact HQ.out
          · exact A.out j (by omega)
      | false =>
        have hne : (X != Y) = true := by simp [bne, hq]
        have HQ : Hid ((X == Y) = false) := hq
        clear hq
        go_wp2
        go_quiet (fail)
        go_wp2
        go_ret
        refine ⟨?_, ⟨rfl, rfl, rfl, Nat.le_refl _, fun _ _ => rfl⟩⟩
        rw [show intsEq xs ys = false from allEq_miss _ xs ys k (by rw [HX.out]; exact hlt) (by rw [HX'.out, HY'.out]; exact HQ.out)]
        rfl
    · go_wp2
      go_ret
      refine ⟨?_, ⟨rfl, rfl, rfl, Nat.le_refl _, fun _ _ => rfl⟩⟩
      rw [show intsEq xs ys = true from allEq_hit _ xs ys (by rw [HX.out, HY.out]) (fun j hj => A.out j (by rw [HX.out] at hj; omega))]
      rfl

theorem slicesEqual_lens (a1 a2 : Option Addr) (c1 c2 n m : Nat) (w : World) (hnm : n ≠ m) :
    Calls Tryz.prog 47 #[.slice a1 n c1, .slice a2 m c2] w fun e w' => e = .returned (.bool false) ∧ Below w.heap.size w w' := by
  have hne : ((n : Int) != (m : Int)) = true := by rw [bne_iff_ne]; omega
  go_enter Tryz.func47, Tryz.ntmps47
  go_wp2
  go_ret
  exact ⟨rfl, Below.refl _ _⟩

/-- slices.Equal tells whether two lists of ints are the same. -/
theorem slicesEqual_any {S T : Nat → Prop} (v1 v2 : Value) (xs ys : List Int) (w : World) (h1 : IntsIn S w v1 xs) (h2 : IntsIn T w v2 ys) :
    Calls Tryz.prog 47 #[v1, v2] w fun e w' => e = .returned (.bool (intsEq xs ys)) ∧ Below w.heap.size w w' := by
  obtain ⟨a1, c1, rfl, l1, k1⟩ := h1.cells
  obtain ⟨a2, c2, rfl, l2, k2⟩ := h2.cells
  by_cases h : xs.length = ys.length
  · rw [← h] at k2 ⊢
    exact slicesEqual_walk a1 a2 c1 c2 xs.length xs ys w rfl h.symm (by omega) k1 k2
  · rw [show intsEq xs ys = false from allEq_len _ xs ys h]
    exact slicesEqual_lens a1 a2 c1 c2 _ _ w h


theorem ret_bool {a b : Bool} (h : a = b) : Ending.returned (.bool a) = .returned (.bool b) := by rw [h]

set_option maxHeartbeats 1000000 in
theorem sameOp_any {S T : Nat → Prop} (x y : MOp) (l1 l2 : Value) (w : World) (h1 : IntsIn S w l1 x.list) (h2 : IntsIn T w l2 y.list) :
    Calls Tryz.prog 46 #[.agg #[.int .i64 x.kind, .string x.key, .int .i64 x.value, l1, .bool x.has, .bool x.nl], .agg #[.int .i64 y.kind, .string y.key, .int .i64 y.value, l2, .bool y.has, .bool y.nl]] w
      fun e w' => e = .returned (.bool (opEq x y)) ∧ Below w.heap.size w w' := by
  obtain ⟨xk, xs, xv, xl, xh, xn⟩ := x
  obtain ⟨yk, ys, yv, yl, yh, yn⟩ := y
  obtain ⟨a1, c1, rfl, -⟩ := id h1
  obtain ⟨a2, c2, rfl, -⟩ := id h2
  simp only [opEq, MOp.kind, MOp.key, MOp.value, MOp.list, MOp.has, MOp.nl] at *
  generalize hw2 : (w.alloc (.cells #[.int .i64 xk, .string xs, .int .i64 xv, .slice a1 xl.length c1, .bool xh, .bool xn] 74)).alloc (.cells #[.int .i64 yk, .string ys, .int .i64 yv, .slice a2 yl.length c2, .bool yh, .bool yn] 74) = w2
  have B0 : Below w.heap.size w w2 := by rw [← hw2]; exact ((Below.refl _ w).alloc (Nat.le_refl _) _).alloc (by simp) _
  have hs : w.heap.size ≤ w2.heap.size := B0.size
  have H := hid (slicesEqual_any _ _ xl yl w2 (h1.keep (keeps_below B0) (fun _ _ h => h)) (h2.keep (keeps_below B0) (fun _ _ h => h)))
  rw [← hw2] at H B0 hs
  have HB := hid B0
  have HS := hid hs
  clear h1 h2 B0 hs hw2
  generalize intsEq xl yl = r at *
  cases q1 : (xk == yk)
  · go_enter Tryz.func46, Tryz.ntmps46
    go_wp2_with fail
    go_ret
    exact ⟨rfl, HB.out⟩
  cases q2 : (xs.toList == ys.toList)
  · go_enter Tryz.func46, Tryz.ntmps46
    go_wp2_with fail
    go_ret
    exact ⟨rfl, HB.out⟩
  cases q3 : (xv == yv)
  · go_enter Tryz.func46, Tryz.ntmps46
    go_wp2_with fail
    go_ret
    exact ⟨rfl, HB.out⟩
  cases q4 : (xh == yh)
  · go_enter Tryz.func46, Tryz.ntmps46
    go_wp2_with fail
    go_ret
    exact ⟨rfl, HB.out⟩
  cases q5 : (xn == yn)
  · go_enter Tryz.func46, Tryz.ntmps46
    go_wp2_with fail
    go_ret
    exact ⟨rfl, HB.out⟩
  · go_enter Tryz.func46, Tryz.ntmps46
    go_wp2_with (go_at_call 47; refine H.out.mono ?_; rintro e w' ⟨rfl, hb⟩)
    go_ret
    exact ⟨rfl, HB.out.trans (hb.mono HS.out)⟩

set_option maxHeartbeats 1000000 in
theorem equalOps_walk {S T : Nat → Prop} (a1 a2 : Option Addr) (c1 c2 n : Nat) (xs ys : List MOp) (w : World) (hx : xs.length = n) (hy : ys.length = n) (_hbig : n ≤ 9223372036854775807)
    (h1 : RowCells 6 (OpRow S w) w a1 xs n) (h2 : RowCells 6 (OpRow T w) w a2 ys n) :
    Calls Tryz.prog 45 #[.slice a1 n c1, .slice a2 n c2, .func (.func 46) #[] #[]] w fun e w' => e = .returned (.bool (opsEq xs ys)) ∧ Below w.heap.size w w' := by
  have HX : Hid (xs.length = n) := hx
  have HY : Hid (ys.length = n) := hy
  clear hx hy
  go_enter Tryz.func45, Tryz.ntmps45
  go_wp2
  go_loopg [7, 8, 9, 17] n (fun g _ _ _ i wr => ∃ k : Nat, k ≤ n ∧ n - k ≤ g ∧ i = .int .i64 k ∧ Aside (Below w.heap.size w wr) ∧ Aside (∀ j, j < k → opEq (xs.getD j default) (ys.getD j default) = true))
  case atStart => exact ⟨0, Nat.zero_le _, by omega, rfl, Below.refl _ _, fun j hj => absurd hj (Nat.not_lt_zero _)⟩
  case round =>
    obtain ⟨k, hk, hg, rfl, BW, A⟩ := hrel
    by_cases hlt : k < n
    · have hlti : (k : Int) < (n : Int) := by omega
      obtain ⟨b1, o1, cs1, rfl, hb1, _, ⟨l1, rfl, i1⟩, k1⟩ := h1 k hlt
      obtain ⟨b2, o2, cs2, rfl, hb2, _, ⟨l2, rfl, i2⟩, k2⟩ := h2 k hlt
      clear h1 h2
      have d0 : wr.cell? ⟨b1, o1 + k * 6, none⟩ = _ := (BW.out.cell (p := ⟨b1, o1 + k * 6, none⟩) hb1).trans (k1 0 _ rfl)
      have d1 := (BW.out.cell (p := ⟨b1, o1 + k * 6 + 1, none⟩) hb1).trans (k1 1 _ rfl)
      have d2 := (BW.out.cell (p := ⟨b1, o1 + k * 6 + 2, none⟩) hb1).trans (k1 2 _ rfl)
      have d3 := (BW.out.cell (p := ⟨b1, o1 + k * 6 + 3, none⟩) hb1).trans (k1 3 _ rfl)
      have d4 := (BW.out.cell (p := ⟨b1, o1 + k * 6 + 4, none⟩) hb1).trans (k1 4 _ rfl)
      have d5 := (BW.out.cell (p := ⟨b1, o1 + k * 6 + 5, none⟩) hb1).trans (k1 5 _ rfl)
      have e0 : wr.cell? ⟨b2, o2 + k * 6, none⟩ = _ := (BW.out.cell (p := ⟨b2, o2 + k * 6, none⟩) hb2).trans (k2 0 _ rfl)
      have e1 := (BW.out.cell (p := ⟨b2, o2 + k * 6 + 1, none⟩) hb2).trans (k2 1 _ rfl)
      have e2 := (BW.out.cell (p := ⟨b2, o2 + k * 6 + 2, none⟩) hb2).trans (k2 2 _ rfl)
      have e3 := (BW.out.cell (p := ⟨b2, o2 + k * 6 + 3, none⟩) hb2).trans (k2 3 _ rfl)
      have e4 := (BW.out.cell (p := ⟨b2, o2 + k * 6 + 4, none⟩) hb2).trans (k2 4 _ rfl)
      have e5 := (BW.out.cell (p := ⟨b2, o2 + k * 6 + 5, none⟩) hb2).trans (k2 5 _ rfl)
      clear k1 k2
      have hsz := BW.out.size
      have hb2r : b2 < wr.heap.size := Nat.lt_of_lt_of_le hb2 hsz
      have hne2 : b2 ≠ wr.heap.size := by omega
      have j1 := i1.keep (keeps_below BW.out) (fun _ _ h => h)
      have j2 := i2.keep (keeps_below BW.out) (fun _ _ h => h)
      clear i1 i2
      have HA : Hid (∀ b, b = opEq (xs.getD k default) (ys.getD k default) → b = opEq (xs.getD k default) (ys.getD k default)) := fun _ h => h
      generalize hX : xs.getD k default = X at *
      generalize hY : ys.getD k default = Y at *
      have HX' := hid hX
      have HY' := hid hY
      clear hX hY HA
      obtain ⟨al1, cl1, rfl, -⟩ := id j1
      obtain ⟨al2, cl2, rfl, -⟩ := id j2
      go_wp2_with fail
      refine (sameOp_any (S := S) (T := T) X Y _ _ _ (j1.keep (keeps_below (((Below.refl _ wr).alloc (Nat.le_refl _) _).alloc (by simp) _)) (fun _ _ h => h)) (j2.keep (keeps_below (((Below.refl _ wr).alloc (Nat.le_refl _) _).alloc (by simp) _)) (fun _ _ h => h))).mono ?_
      rintro e w' ⟨rfl, hb⟩
      have hbw : Below w.heap.size w w' := (BW.out.trans ((((Below.refl _ wr).alloc (Nat.le_refl _) _).alloc (by simp) _).mono hsz)).trans (hb.mono (by simp; omega))
      have HB := hid hbw
      clear hb hbw j1 j2 d0 d1 d2 d3 d4 d5 e0 e1 e2 e3 e4 e5
      generalize hq : opEq X Y = r
      have HQ := hid hq
      clear hq
      cases r with
      | false =>
        go_wp2
        go_ret
        refine ⟨?_, HB.out⟩
        rw [show opsEq xs ys = false from allEq_miss _ xs ys k (by rw [HX.out]; exact hlt) (by rw [HX'.out, HY'.out]; exact HQ.out)]
        rfl
      | true =>
        go_wp2
        go_roundg (n - (k + 1))
        case measure => omega
        case rel =>
          refine ⟨k + 1, by omega, by omega, by go_num, HB.out, (show Aside _ from fun j hj => ?_)⟩
          by_cases e : j = k
          · subst e; rw [HX'.out, HY'.out]; exact HQ.out
          · exact A.out j (by omega)
    · go_wp2
      go_ret
      refine ⟨?_, BW.out⟩
      rw [show opsEq xs ys = true from allEq_hit _ xs ys (by rw [HX.out, HY.out]) (fun j hj => A.out j (by rw [HX.out] at hj; omega))]
      rfl
theorem equalOps_lens (a1 a2 : Option Addr) (c1 c2 n m : Nat) (fv : Value) (w : World) (hnm : n ≠ m) :
    Calls Tryz.prog 45 #[.slice a1 n c1, .slice a2 m c2, fv] w fun e w' => e = .returned (.bool false) ∧ Below w.heap.size w w' := by
  have hne : ((n : Int) != (m : Int)) = true := by rw [bne_iff_ne]; omega
  go_enter Tryz.func45, Tryz.ntmps45
  go_wp2
  go_ret
  exact ⟨rfl, Below.refl _ _⟩

/-- slices.EqualFunc with sameOp tells whether two lists of operations are the same. -/
theorem equalOps_any {S T : Nat → Prop} (v1 v2 : Value) (xs ys : List MOp) (w : World) (h1 : OpsIn S w v1 xs) (h2 : OpsIn T w v2 ys) :
    Calls Tryz.prog 45 #[v1, v2, .func (.func 46) #[] #[]] w fun e w' => e = .returned (.bool (opsEq xs ys)) ∧ Below w.heap.size w w' := by
  obtain ⟨a1, c1, rfl, l1, k1⟩ := RowsIn.cells h1 (by omega)
  obtain ⟨a2, c2, rfl, l2, k2⟩ := RowsIn.cells h2 (by omega)
  by_cases h : xs.length = ys.length
  · rw [← h] at k2 ⊢
    exact equalOps_walk a1 a2 c1 c2 xs.length xs ys w rfl h.symm (by omega) k1 k2
  · rw [show opsEq xs ys = false from allEq_len _ xs ys h]
    exact equalOps_lens a1 a2 c1 c2 _ _ _ w h

/-- SameOps tells whether two lists of operations are the same. -/
theorem sameOps_any {S T : Nat → Prop} (v1 v2 : Value) (xs ys : List MOp) (w : World) (h1 : OpsIn S w v1 xs) (h2 : OpsIn T w v2 ys) :
    Calls Tryz.prog 23 #[v1, v2] w fun e w' => e = .returned (.bool (opsEq xs ys)) ∧ Below w.heap.size w w' := by
  have H := hid (equalOps_any v1 v2 xs ys w h1 h2)
  obtain ⟨a1, c1, rfl, -⟩ := id h1
  obtain ⟨a2, c2, rfl, -⟩ := id h2
  clear h1 h2
  go_enter Tryz.func23, Tryz.ntmps23
  go_wp2_with (go_at_call 45; refine H.out.mono ?_; rintro e w' ⟨rfl, hb⟩)
  go_ret
  exact ⟨rfl, hb⟩

set_option maxHeartbeats 1000000 in
/-- sameEvent tells whether two events are the same. -/
theorem sameEvent_any {S T : Nat → Prop} (x y : MEv) (l1 l2 : Value) (w : World) (h1 : OpsIn S w l1 x.ops) (h2 : OpsIn T w l2 y.ops) :
    Calls Tryz.prog 22 #[.agg #[.int .i64 x.kind, .int .i64 x.proc, l1], .agg #[.int .i64 y.kind, .int .i64 y.proc, l2]] w
      fun e w' => e = .returned (.bool (evEq x y)) ∧ Below w.heap.size w w' := by
  obtain ⟨xk, xp, xl⟩ := x
  obtain ⟨yk, yp, yl⟩ := y
  obtain ⟨a1, c1, rfl, -⟩ := id h1
  obtain ⟨a2, c2, rfl, -⟩ := id h2
  simp only [evEq, MEv.kind, MEv.proc, MEv.ops] at *
  generalize hw2 : (w.alloc (.cells #[.int .i64 xk, .int .i64 xp, .slice a1 xl.length c1] 62)).alloc (.cells #[.int .i64 yk, .int .i64 yp, .slice a2 yl.length c2] 62) = w2
  have B0 : Below w.heap.size w w2 := by rw [← hw2]; exact ((Below.refl _ w).alloc (Nat.le_refl _) _).alloc (by simp) _
  have hs : w.heap.size ≤ w2.heap.size := B0.size
  have H := hid (sameOps_any _ _ xl yl w2 (h1.keep (keeps_below B0) (fun _ _ h => h)) (h2.keep (keeps_below B0) (fun _ _ h => h)))
  rw [← hw2] at H B0 hs
  have HB := hid B0
  have HS := hid hs
  clear h1 h2 B0 hs hw2
  generalize opsEq xl yl = r at *
  cases q1 : (xk == yk)
  · go_enter Tryz.func22, Tryz.ntmps22
    go_wp2_with fail
    go_ret
    exact ⟨rfl, HB.out⟩
  cases q2 : (xp == yp)
  · go_enter Tryz.func22, Tryz.ntmps22
    go_wp2_with fail
    go_ret
    exact ⟨rfl, HB.out⟩
  · go_enter Tryz.func22, Tryz.ntmps22
    go_wp2_with (go_at_call 23; refine H.out.mono ?_; rintro e w' ⟨rfl, hb⟩)
    go_ret
    exact ⟨rfl, HB.out.trans (hb.mono HS.out)⟩

set_option maxHeartbeats 1000000 in
theorem equalEvs_walk {S T : Nat → Prop} (a1 a2 : Option Addr) (c1 c2 n : Nat) (xs ys : List MEv) (w : World) (hx : xs.length = n) (hy : ys.length = n) (_hbig : n ≤ 9223372036854775807)
    (h1 : RowCells 3 (EvRow S w) w a1 xs n) (h2 : RowCells 3 (EvRow T w) w a2 ys n) :
    Calls Tryz.prog 21 #[.slice a1 n c1, .slice a2 n c2, .func (.func 22) #[] #[]] w fun e w' => e = .returned (.bool (evsEq xs ys)) ∧ Below w.heap.size w w' := by
  have HX : Hid (xs.length = n) := hx
  have HY : Hid (ys.length = n) := hy
  clear hx hy
  go_enter Tryz.func21, Tryz.ntmps21
  go_wp2
  go_loopg [7, 8, 9, 17] n (fun g _ _ _ i wr => ∃ k : Nat, k ≤ n ∧ n - k ≤ g ∧ i = .int .i64 k ∧ Aside (Below w.heap.size w wr) ∧ Aside (∀ j, j < k → evEq (xs.getD j default) (ys.getD j default) = true))
  case atStart => exact ⟨0, Nat.zero_le _, by omega, rfl, Below.refl _ _, fun j hj => absurd hj (Nat.not_lt_zero _)⟩
  case round =>
    obtain ⟨k, hk, hg, rfl, BW, A⟩ := hrel
    by_cases hlt : k < n
    · have hlti : (k : Int) < (n : Int) := by omega
      obtain ⟨b1, o1, cs1, rfl, hb1, _, ⟨l1, rfl, i1⟩, k1⟩ := h1 k hlt
      obtain ⟨b2, o2, cs2, rfl, hb2, _, ⟨l2, rfl, i2⟩, k2⟩ := h2 k hlt
      clear h1 h2
      have d0 : wr.cell? ⟨b1, o1 + k * 3, none⟩ = _ := (BW.out.cell (p := ⟨b1, o1 + k * 3, none⟩) hb1).trans (k1 0 _ rfl)
      have d1 := (BW.out.cell (p := ⟨b1, o1 + k * 3 + 1, none⟩) hb1).trans (k1 1 _ rfl)
      have d2 := (BW.out.cell (p := ⟨b1, o1 + k * 3 + 2, none⟩) hb1).trans (k1 2 _ rfl)
      have e0 : wr.cell? ⟨b2, o2 + k * 3, none⟩ = _ := (BW.out.cell (p := ⟨b2, o2 + k * 3, none⟩) hb2).trans (k2 0 _ rfl)
      have e1 := (BW.out.cell (p := ⟨b2, o2 + k * 3 + 1, none⟩) hb2).trans (k2 1 _ rfl)
      have e2 := (BW.out.cell (p := ⟨b2, o2 + k * 3 + 2, none⟩) hb2).trans (k2 2 _ rfl)
      clear k1 k2
      have hsz := BW.out.size
      have hb2r : b2 < wr.heap.size := Nat.lt_of_lt_of_le hb2 hsz
      have hne2 : b2 ≠ wr.heap.size := by omega
      have j1 := i1.keep (keeps_below BW.out) (fun _ _ h => h)
      have j2 := i2.keep (keeps_below BW.out) (fun _ _ h => h)
      clear i1 i2
      generalize hX : xs.getD k default = X at *
      generalize hY : ys.getD k default = Y at *
      have HX' := hid hX
      have HY' := hid hY
      clear hX hY
      obtain ⟨al1, cl1, rfl, -⟩ := id j1
      obtain ⟨al2, cl2, rfl, -⟩ := id j2
      go_wp2_with fail
      refine (sameEvent_any (S := S) (T := T) X Y _ _ _ (j1.keep (keeps_below (((Below.refl _ wr).alloc (Nat.le_refl _) _).alloc (by simp) _)) (fun _ _ h => h)) (j2.keep (keeps_below (((Below.refl _ wr).alloc (Nat.le_refl _) _).alloc (by simp) _)) (fun _ _ h => h))).mono ?_
      rintro e w' ⟨rfl, hb⟩
      have hbw : Below w.heap.size w w' := (BW.out.trans ((((Below.refl _ wr).alloc (Nat.le_refl _) _).alloc (by simp) _).mono hsz)).trans (hb.mono (by simp; omega))
      have HB := hid hbw
      clear hb hbw j1 j2 d0 d1 d2 e0 e1 e2
      generalize hq : evEq X Y = r
      have HQ := hid hq
      clear hq
      cases r with
      | false =>
        go_wp2
        go_ret
        refine ⟨?_, HB.out⟩
        rw [show evsEq xs ys = false from allEq_miss _ xs ys k (by rw [HX.out]; exact hlt) (by rw [HX'.out, HY'.out]; exact HQ.out)]
        rfl
      | true =>
        go_wp2
        go_roundg (n - (k + 1))
        case measure => omega
        case rel =>
          refine ⟨k + 1, by omega, by omega, by go_num, HB.out, (show Aside _ from fun j hj => ?_)⟩
          by_cases e : j = k
          · subst e; rw [HX'.out, HY'.out]; exact HQ.out
          · exact A.out j (by omega)
    · go_wp2
      go_ret
      refine ⟨?_, BW.out⟩
      rw [show evsEq xs ys = true from allEq_hit _ xs ys (by rw [HX.out, HY.out]) (fun j hj => A.out j (by rw [HX.out] at hj; omega))]
      rfl

theorem equalEvs_lens (a1 a2 : Option Addr) (c1 c2 n m : Nat) (fv : Value) (w : World) (hnm : n ≠ m) :
    Calls Tryz.prog 21 #[.slice a1 n c1, .slice a2 m c2, fv] w fun e w' => e = .returned (.bool false) ∧ Below w.heap.size w w' := by
  have hne : ((n : Int) != (m : Int)) = true := by rw [bne_iff_ne]; omega
  go_enter Tryz.func21, Tryz.ntmps21
  go_wp2
  go_ret
  exact ⟨rfl, Below.refl _ _⟩

/-- slices.EqualFunc with sameEvent tells whether two histories are the same. -/
theorem equalEvs_any {S T : Nat → Prop} (v1 v2 : Value) (xs ys : List MEv) (w : World) (h1 : EvsIn S w v1 xs) (h2 : EvsIn T w v2 ys) :
    Calls Tryz.prog 21 #[v1, v2, .func (.func 22) #[] #[]] w fun e w' => e = .returned (.bool (evsEq xs ys)) ∧ Below w.heap.size w w' := by
  obtain ⟨a1, c1, rfl, l1, k1⟩ := RowsIn.cells h1 (by omega)
  obtain ⟨a2, c2, rfl, l2, k2⟩ := RowsIn.cells h2 (by omega)
  by_cases h : xs.length = ys.length
  · rw [← h] at k2 ⊢
    exact equalEvs_walk a1 a2 c1 c2 xs.length xs ys w rfl h.symm (by omega) k1 k2
  · rw [show evsEq xs ys = false from allEq_len _ xs ys h]
    exact equalEvs_lens a1 a2 c1 c2 _ _ _ w h

/-- histtext.Same tells whether two histories are the same. -/
theorem same_any {S T : Nat → Prop} (v1 v2 : Value) (xs ys : List MEv) (w : World) (h1 : EvsIn S w v1 xs) (h2 : EvsIn T w v2 ys) :
    Calls Tryz.prog 8 #[v1, v2] w fun e w' => e = .returned (.bool (evsEq xs ys)) ∧ Below w.heap.size w w' := by
  have H := hid (equalEvs_any v1 v2 xs ys w h1 h2)
  obtain ⟨a1, c1, rfl, -⟩ := id h1
  obtain ⟨a2, c2, rfl, -⟩ := id h2
  clear h1 h2
  go_enter Tryz.func8, Tryz.ntmps8
  go_wp2_with (go_at_call 21; refine H.out.mono ?_; rintro e w' ⟨rfl, hb⟩)
  go_ret
  exact ⟨rfl, hb⟩
end Go.Proofs.YtegeiojcdjnmjaaGreatDoor
namespace Go.Proofs.YtegeiojcdjnmjaaGreatDoor
set_option linter.unusedVariables false
set_option linter.unusedSimpArgs false
open Go.RowKit

abbrev len (o : MOp) : Int := ((o.list.length : Nat) : Int)
/-- An operation may be, its key left aside. -/
def opOk (o : MOp) : Bool :=
  if o.kind == 1 || o.kind == 3 then (len o == 0) && (!o.has && !o.nl)
  else if o.kind == 2 then (o.value == 0) && (!o.nl && (decide (len o ≤ 40) && (o.has || (len o == 0))))
  else if o.kind == 4 then (len o == 0) && ((o.has || !o.nl) && ((o.has && !o.nl) || (o.value == 0)))
  else false

theorem len40 (l : List Int) : (((l.length : Nat) : Int) ≤ 40 ∧ Hid (decide (((l.length : Nat) : Int) ≤ 40) = true)) ∨ (¬ ((l.length : Nat) : Int) ≤ 40 ∧ Hid (decide (((l.length : Nat) : Int) ≤ 40) = false)) := by
  by_cases h : ((l.length : Nat) : Int) ≤ 40
  · exact .inl ⟨h, decide_eq_true h⟩
  · exact .inr ⟨h, decide_eq_false h⟩

end Go.Proofs.YtegeiojcdjnmjaaGreatDoor
namespace Go.Proofs.YtegeiojcdjnmjaaGreatDoor
set_option linter.unusedVariables false
set_option linter.unusedSimpArgs false
open Go.RowKit

set_option maxHeartbeats 4000000 in
set_option maxRecDepth 100000 in
/-- The code's canOp. -/
theorem canOp_any {S : Nat → Prop} (o : MOp) (lv : Value) (w : World) (h : IntsIn S w lv o.list) :
    Calls Tryz.prog 89 #[.agg #[.int .i64 o.kind, .string o.key, .int .i64 o.value, lv, .bool o.has, .bool o.nl]] w fun e w' => e = .returned (.bool (opOk o)) ∧ Below w.heap.size w w' := by
  obtain ⟨k, s, v, l, hs, nl⟩ := o
  obtain ⟨a1, c1, rfl, -⟩ := id h
  clear h
  simp only [MOp.kind, MOp.key, MOp.value, MOp.list, MOp.has, MOp.nl] at *
  have HB : Hid (Below w.heap.size w (w.alloc (.cells #[.int .i64 k, .string s, .int .i64 v, .slice a1 l.length c1, .bool hs, .bool nl] 74))) := (Below.refl _ w).alloc (Nat.le_refl _) _
  by_cases k1 : k = 1
  · subst k1
    cases q1 : (((l.length : Nat) : Int) == 0) <;> cases hs <;> cases nl <;>
    · go_enter Tryz.func89, Tryz.ntmps89
      go_wp2_with fail
      go_ret
      exact ⟨ret_b (by simp only [opOk, len, MOp.kind, MOp.value, MOp.list, MOp.has, MOp.nl, q1]; rfl), HB.out⟩
  by_cases k3 : k = 3
  · subst k3
    cases q1 : (((l.length : Nat) : Int) == 0) <;> cases hs <;> cases nl <;>
    · go_enter Tryz.func89, Tryz.ntmps89
      go_wp2_with fail
      go_ret
      exact ⟨ret_b (by simp only [opOk, len, MOp.kind, MOp.value, MOp.list, MOp.has, MOp.nl, q1]; rfl), HB.out⟩
  by_cases k2 : k = 2
  · subst k2
    cases q2 : (v == 0) <;> cases q1 : (((l.length : Nat) : Int) == 0) <;> rcases len40 l with ⟨q4, Q5⟩ | ⟨q4, Q5⟩ <;> cases hs <;> cases nl <;>
    · go_enter Tryz.func89, Tryz.ntmps89
      go_wp2_with fail
      go_ret
      exact ⟨ret_b (by simp only [opOk, len, MOp.kind, MOp.value, MOp.list, MOp.has, MOp.nl, q1, q2, Q5.out]; rfl), HB.out⟩
  by_cases k4 : k = 4
  · subst k4
    cases q2 : (v == 0) <;> cases q1 : (((l.length : Nat) : Int) == 0) <;> cases hs <;> cases nl <;>
    · go_enter Tryz.func89, Tryz.ntmps89
      go_wp2_with fail
      go_ret
      exact ⟨ret_b (by simp only [opOk, len, MOp.kind, MOp.value, MOp.list, MOp.has, MOp.nl, q1, q2]; rfl), HB.out⟩
  · have e1 : (k == 1) = false := by simpa using k1
    have e2 : (k == 2) = false := by simpa using k2
    have e3 : (k == 3) = false := by simpa using k3
    have e4 : (k == 4) = false := by simpa using k4
    have R : Hid (opOk (k, s, v, l, hs, nl) = false) := by show opOk _ = _; simp [opOk, MOp.kind, e1, e2, e3, e4]
    go_enter Tryz.func89, Tryz.ntmps89
    go_wp2_with fail
    go_ret
    exact ⟨ret_b R.out, HB.out⟩
end Go.Proofs.YtegeiojcdjnmjaaGreatDoor
namespace Go.Proofs.YtegeiojcdjnmjaaGreatDoor
set_option linter.unusedVariables false
set_option linter.unusedSimpArgs false
open Go.RowKit

/-- An event's own numbers may be. -/
abbrev evHead (e : MEv) : Prop := 1 ≤ e.kind ∧ e.kind ≤ 4 ∧ 0 ≤ e.proc ∧ e.proc ≤ 99 ∧ 1 ≤ e.ops.length ∧ e.ops.length ≤ 8
def opKey (o : MOp) : Bool := keyOk o.key && opOk o
def evOk (e : MEv) : Bool := decide (evHead e) && e.ops.all opKey
/-- A history may be. -/
def canM (l : List MEv) : Bool := decide (l.length ≤ 300) && l.all evOk

theorem ev_no {e : MEv} (h : ¬ evHead e) : evOk e = false := by unfold evOk; rw [decide_eq_false h]; rfl
theorem all_miss {α : Type} [Inhabited α] {p : α → Bool} : ∀ {l : List α} {k : Nat}, k < l.length → p (l.getD k default) = false → l.all p = false
  | [], k, h, _ => by simp at h
  | x :: l, 0, _, h => by simp at h; simp [h]
  | x :: l, k + 1, hk, h => by
    have := all_miss (p := p) (l := l) (k := k) (by simpa using hk) (by simpa using h)
    rw [List.all_cons, this, Bool.and_false]
theorem all_hit {α : Type} [Inhabited α] {p : α → Bool} : ∀ {l : List α}, (∀ k, k < l.length → p (l.getD k default) = true) → l.all p = true
  | [], _ => rfl
  | x :: l, h => by
    have h0 := h 0 (by simp)
    have := all_hit (p := p) (l := l) (fun k hk => by simpa using h (k + 1) (by simpa using hk))
    rw [List.all_cons, this]
    simpa using h0
theorem ev_miss {e : MEv} {k : Nat} (hk : k < e.ops.length) (h : opKey (e.ops.getD k default) = false) : evOk e = false := by
  unfold evOk; rw [all_miss hk h, Bool.and_false]
theorem ev_hit {e : MEv} (h : evHead e) (ha : ∀ k, k < e.ops.length → opKey (e.ops.getD k default) = true) : evOk e = true := by
  unfold evOk; rw [decide_eq_true h, all_hit ha]; rfl

theorem new_cells (w : World) (cs : Array Value) (t : TypeId) (j : Nat) : (w.alloc (.cells cs t)).cell? ⟨w.heap.size, j, none⟩ = cs[j]? := Lib.cell_of_heap (heap_alloc_new w _) j
theorem below_box (w : World) (o : Obj) : Below w.heap.size w (w.alloc o) := (Below.refl _ _).alloc (Nat.le_refl _) _

/-- The code's isProcess. -/
theorem isProcess_any (n : Int) (w : World) : Calls Tryz.prog 72 #[.int .i64 n] w fun e w' => e = .returned (.bool (decide (0 ≤ n) && decide (n ≤ 99))) ∧ w = w' := by
  by_cases h0 : 0 ≤ n
  · by_cases h1 : n ≤ 99
    · go_enter Tryz.func72, Tryz.ntmps72
      go_wp2_with fail
      go_ret
      exact ⟨ret_b (by simp [h0, h1]), rfl⟩
    · go_enter Tryz.func72, Tryz.ntmps72
      go_wp2_with fail
      go_ret
      exact ⟨ret_b (by simp [h0, h1]), rfl⟩
  · go_enter Tryz.func72, Tryz.ntmps72
    go_wp2_with fail
    go_ret
    exact ⟨ret_b (by rw [decide_eq_false (show ¬ 0 ≤ n by omega)]; rfl), rfl⟩

/-- The code's ops.Can. -/
theorem opCan_any {S : Nat → Prop} (o : MOp) (lv : Value) (w : World) (te : TypeId) (pe : Value) (hv : w.cell? ⟨3, 0, none⟩ = some pe) (h : IntsIn S w lv o.list) :
    Calls Tryz.prog 73 #[.agg #[.int .i64 o.kind, .string o.key, .int .i64 o.value, lv, .bool o.has, .bool o.nl]] w fun e w' => e = .returned (.bool (opKey o)) ∧ Below w.heap.size w w' := by
  obtain ⟨al1, cl1, rfl, -⟩ := id h
  have HVB : Hid (∀ o, (w.alloc o).cell? ⟨3, 0, none⟩ = some pe) := fun o => Lib.cell?_alloc_some _ hv
  have J1 := hid h
  clear h hv
  go_enter Tryz.func73, Tryz.ntmps73
  go_wp2_with fail
  refine (isKey_any o.key _ te pe (HVB.out _)).mono ?_
  rintro e w5 ⟨rfl, b5⟩
  have c0 := (b5.cell (p := ⟨w.heap.size, 0, none⟩) (by simp)).trans (new_cells w _ 74 0)
  have c1 := (b5.cell (p := ⟨w.heap.size, 1, none⟩) (by simp)).trans (new_cells w _ 74 1)
  have c2 := (b5.cell (p := ⟨w.heap.size, 2, none⟩) (by simp)).trans (new_cells w _ 74 2)
  have c3 := (b5.cell (p := ⟨w.heap.size, 3, none⟩) (by simp)).trans (new_cells w _ 74 3)
  have c4 := (b5.cell (p := ⟨w.heap.size, 4, none⟩) (by simp)).trans (new_cells w _ 74 4)
  have c5 := (b5.cell (p := ⟨w.heap.size, 5, none⟩) (by simp)).trans (new_cells w _ 74 5)
  simp only [List.getElem?_toArray, List.getElem?_cons_zero, List.getElem?_cons_succ] at c0 c1 c2 c3 c4 c5
  have b5' : Below w.heap.size w w5 := (below_box w _).trans (b5.mono (by simp))
  have HB5 := hid b5'
  have J5 := hid (J1.out.keep (T := Any) (keeps_below b5') (fun _ _ _ => trivial))
  clear b5 b5'
  cases q1 : keyOk o.key with
  | false =>
    go_wp2_with fail
    go_ret
    exact ⟨ret_b (by unfold opKey; rw [q1]; rfl), HB5.out⟩
  | true =>
    go_wp2_with fail
    refine (canOp_any o _ _ J5.out).mono ?_
    rintro e w6 ⟨rfl, b6⟩
    have HB6 : Hid (Below w.heap.size w w6) := HB5.out.trans (b6.mono HB5.out.size)
    clear b6 c0 c1 c2 c3 c4 c5
    go_wp2_with fail
    go_ret
    exact ⟨ret_b (by unfold opKey; rw [q1]; rfl), HB6.out⟩

set_option maxHeartbeats 4000000 in
set_option maxRecDepth 100000 in
/-- The code's canEvent. -/
theorem canEvent_any {S : Nat → Prop} (e : MEv) (ov : Value) (w : World) (te : TypeId) (pe : Value) (hv : w.cell? ⟨3, 0, none⟩ = some pe) (h : OpsIn S w ov e.ops) :
    Calls Tryz.prog 48 #[.agg #[.int .i64 e.kind, .int .i64 e.proc, ov]] w fun en w' => en = .returned (.bool (evOk e)) ∧ Below w.heap.size w w' := by
  have h1w : 3 < w.heap.size := World.block_lt_of_cell? _ _ hv
  have HV := hid hv
  clear hv
  obtain ⟨ek, ep, xs⟩ := e
  obtain ⟨a1, c1, rfl, hbig, k0⟩ := RowsIn.cells h (by omega)
  clear h
  simp only [MEv.kind, MEv.proc, MEv.ops] at *
  have HC := hid k0
  clear k0
  by_cases f1 : ek < 1
  · have N := hid (ev_no (e := (ek, ep, xs)) (fun h => by have := h.1; simp only [MEv.kind] at this; omega))
    go_enter Tryz.func48, Tryz.ntmps48
    go_wp2_with fail
    go_ret
    exact ⟨ret_b N.out, below_box _ _⟩
  by_cases f2 : 4 < ek
  · have N := hid (ev_no (e := (ek, ep, xs)) (fun h => by have := h.2.1; simp only [MEv.kind] at this; omega))
    go_enter Tryz.func48, Tryz.ntmps48
    go_wp2_with fail
    go_ret
    exact ⟨ret_b N.out, below_box _ _⟩
  cases q3 : (decide (0 ≤ ep) && decide (ep ≤ 99)) with
  | false =>
    have N := hid (ev_no (e := (ek, ep, xs)) (fun h => by have h3 := h.2.2.1; have h4 := h.2.2.2.1; simp only [MEv.proc] at h3 h4; simp [h3, h4] at q3))
    have IP := fun W => isProcess_any ep W
    rw [q3] at IP
    go_enter Tryz.func48, Tryz.ntmps48
    go_wp2_with (go_at_call 72; refine (IP _).mono ?_; rintro e w' ⟨rfl, rfl⟩)
    go_ret
    exact ⟨ret_b N.out, below_box _ _⟩
  | true =>
  have IP := fun W => isProcess_any ep W
  rw [q3] at IP
  simp only [Bool.and_eq_true, decide_eq_true_eq] at q3
  by_cases f5 : xs.length < 1
  · have f5i : ((xs.length : Nat) : Int) < 1 := by omega
    have N := hid (ev_no (e := (ek, ep, xs)) (fun h => by have := h.2.2.2.2.1; simp only [MEv.ops] at this; omega))
    go_enter Tryz.func48, Tryz.ntmps48
    go_wp2_with (go_at_call 72; refine (IP _).mono ?_; rintro e w' ⟨rfl, rfl⟩)
    go_ret
    exact ⟨ret_b N.out, below_box _ _⟩
  by_cases f6 : 8 < xs.length
  · have f5i : ¬ ((xs.length : Nat) : Int) < 1 := by omega
    have f6i : 8 < ((xs.length : Nat) : Int) := by omega
    have N := hid (ev_no (e := (ek, ep, xs)) (fun h => by have := h.2.2.2.2.2; simp only [MEv.ops] at this; omega))
    go_enter Tryz.func48, Tryz.ntmps48
    go_wp2_with (go_at_call 72; refine (IP _).mono ?_; rintro e w' ⟨rfl, rfl⟩)
    go_ret
    exact ⟨ret_b N.out, below_box _ _⟩
  have f5i : ¬ ((xs.length : Nat) : Int) < 1 := by omega
  have f6i : ¬ 8 < ((xs.length : Nat) : Int) := by omega
  have HH : Hid (evHead (ek, ep, xs)) := ⟨by simp only [MEv.kind]; omega, by simp only [MEv.kind]; omega, q3.1, q3.2, by simp only [MEv.ops]; omega, by simp only [MEv.ops]; omega⟩
  clear f5 f6 q3
  go_enter Tryz.func48, Tryz.ntmps48
  go_wp2_with (go_at_call 72; refine (IP _).mono ?_; rintro e w' ⟨rfl, rfl⟩)
  clear IP f1 f2 f5i f6i
  go_loopg [32] xs.length (fun g i wr => ∃ k : Nat, k ≤ xs.length ∧ xs.length - k ≤ g ∧ i = .int .i64 k ∧ Aside (Below w.heap.size w wr) ∧ Aside (∀ j, j < k → opKey (xs.getD j default) = true))
  case atStart => exact ⟨0, Nat.zero_le _, by omega, rfl, below_box _ _, fun j hj => absurd hj (Nat.not_lt_zero _)⟩
  case round =>
    obtain ⟨k, hk, hg, rfl, BW, A⟩ := hrel
    by_cases hlt : k < xs.length
    · have hlti : (k : Int) < (xs.length : Int) := by omega
      obtain ⟨b1, o1, cs1, rfl, hb1, _, ⟨l1, rfl, i1⟩, k1⟩ := HC.out k hlt
      have d0 : wr.cell? ⟨b1, o1 + k * 6, none⟩ = _ := (BW.out.cell (p := ⟨b1, o1 + k * 6, none⟩) hb1).trans (k1 0 _ rfl)
      have d1 := (BW.out.cell (p := ⟨b1, o1 + k * 6 + 1, none⟩) hb1).trans (k1 1 _ rfl)
      have d2 := (BW.out.cell (p := ⟨b1, o1 + k * 6 + 2, none⟩) hb1).trans (k1 2 _ rfl)
      have d3 := (BW.out.cell (p := ⟨b1, o1 + k * 6 + 3, none⟩) hb1).trans (k1 3 _ rfl)
      have d4 := (BW.out.cell (p := ⟨b1, o1 + k * 6 + 4, none⟩) hb1).trans (k1 4 _ rfl)
      have d5 := (BW.out.cell (p := ⟨b1, o1 + k * 6 + 5, none⟩) hb1).trans (k1 5 _ rfl)
      clear k1
      have hsz := BW.out.size
      have j1 := i1.keep (T := Any) (keeps_below BW.out) (fun _ _ _ => trivial)
      clear i1
      generalize hX : xs.getD k default = X at *
      have HX' := hid hX
      clear hX
      obtain ⟨al1, cl1, rfl, -⟩ := id j1
      have J1 := hid j1
      clear j1
      have hvr : wr.cell? ⟨3, 0, none⟩ = some pe := (BW.out.cell (p := ⟨3, 0, none⟩) h1w).trans HV.out
      have HVB : Hid (∀ o, (wr.alloc o).cell? ⟨3, 0, none⟩ = some pe) := fun o => Lib.cell?_alloc_some _ hvr
      clear hvr
      go_wp2_with fail
      have J5 : Hid (∀ o, IntsIn Any (wr.alloc o) _ X.list) := fun o => J1.out.keep (T := Any) (keeps_below (below_box wr o)) (fun _ _ _ => trivial)
      refine (opCan_any X _ _ te pe (HVB.out _) (J5.out _)).mono ?_
      rintro e w6 ⟨rfl, b6⟩
      have HB6 : Hid (Below w.heap.size w w6) := BW.out.trans (((below_box wr _).trans (b6.mono (by simp))).mono hsz)
      clear b6
      cases q2 : opKey X with
      | false =>
        have N := hid (ev_miss (e := (ek, ep, xs)) (k := k) hlt (by show opKey (xs.getD k default) = false; rw [HX'.out]; exact q2))
        go_wp2_with fail
        go_ret
        exact ⟨ret_b N.out, HB6.out⟩
      | true =>
        go_wp2_with fail
        go_roundg (xs.length - (k + 1))
        case measure => omega
        case rel =>
          refine ⟨k + 1, by omega, by omega, by go_num, HB6.out, (show Aside _ from fun j hj => ?_)⟩
          by_cases e : j = k
          · subst e; rw [HX'.out]; exact q2
          · exact A.out j (by omega)
    · have N := hid (ev_hit (e := (ek, ep, xs)) HH.out (fun j hj => A.out j (by simp only [MEv.ops] at hj; omega)))
      go_wp2_with fail
      go_ret
      exact ⟨ret_b N.out, BW.out⟩

theorem can_long {l : List MEv} (h : 300 < l.length) : canM l = false := by unfold canM; rw [decide_eq_false (by omega)]; rfl
theorem can_miss {l : List MEv} {k : Nat} (hk : k < l.length) (h : evOk (l.getD k default) = false) : canM l = false := by unfold canM; rw [all_miss hk h, Bool.and_false]
theorem can_hit {l : List MEv} (h : l.length ≤ 300) (ha : ∀ k, k < l.length → evOk (l.getD k default) = true) : canM l = true := by unfold canM; rw [decide_eq_true h, all_hit ha]; rfl

set_option maxHeartbeats 4000000 in
set_option maxRecDepth 100000 in
/-- The code's Can. -/
theorem can_any {S : Nat → Prop} (v : Value) (l : List MEv) (w : World) (te : TypeId) (pe : Value) (hv : w.cell? ⟨3, 0, none⟩ = some pe) (h : EvsIn S w v l) :
    Calls Tryz.prog 24 #[v] w fun e w' => e = .returned (.bool (canM l)) ∧ Below w.heap.size w w' := by
  have h1w : 3 < w.heap.size := World.block_lt_of_cell? _ _ hv
  have HV := hid hv
  clear hv
  obtain ⟨a1, c1, rfl, hbig, k0⟩ := RowsIn.cells h (by omega)
  have HC := hid k0
  clear h k0
  by_cases f1 : 300 < l.length
  · have f1i : 300 < ((l.length : Nat) : Int) := by omega
    have N := hid (can_long f1)
    go_enter Tryz.func24, Tryz.ntmps24
    go_wp2_with fail
    go_ret
    exact ⟨ret_b N.out, Below.refl _ _⟩
  have f1i : ¬ 300 < ((l.length : Nat) : Int) := by omega
  go_enter Tryz.func24, Tryz.ntmps24
  go_wp2_with fail
  clear f1i
  go_loopg [10] l.length (fun g i wr => ∃ k : Nat, k ≤ l.length ∧ l.length - k ≤ g ∧ i = .int .i64 k ∧ Aside (Below w.heap.size w wr) ∧ Aside (∀ j, j < k → evOk (l.getD j default) = true))
  case atStart => exact ⟨0, Nat.zero_le _, by omega, rfl, Below.refl _ _, fun j hj => absurd hj (Nat.not_lt_zero _)⟩
  case round =>
    obtain ⟨k, hk, hg, rfl, BW, A⟩ := hrel
    by_cases hlt : k < l.length
    · have hlti : (k : Int) < (l.length : Int) := by omega
      obtain ⟨b1, o1, cs1, rfl, hb1, _, ⟨ov, rfl, i1⟩, k1⟩ := HC.out k hlt
      have d0 : wr.cell? ⟨b1, o1 + k * 3, none⟩ = _ := (BW.out.cell (p := ⟨b1, o1 + k * 3, none⟩) hb1).trans (k1 0 _ rfl)
      have d1 := (BW.out.cell (p := ⟨b1, o1 + k * 3 + 1, none⟩) hb1).trans (k1 1 _ rfl)
      have d2 := (BW.out.cell (p := ⟨b1, o1 + k * 3 + 2, none⟩) hb1).trans (k1 2 _ rfl)
      clear k1
      have hsz := BW.out.size
      obtain ⟨oa, oc, rfl, -⟩ := id i1
      have J1 : Hid (∀ o, OpsIn Any (wr.alloc o) _ (l.getD k default).ops) := fun o => i1.keep (keeps_below (BW.out.trans ((below_box wr o).mono hsz))) (fun _ _ _ => trivial)
      clear i1
      generalize hX : l.getD k default = X at *
      have HX' := hid hX
      clear hX
      have hvr : wr.cell? ⟨3, 0, none⟩ = some pe := (BW.out.cell (p := ⟨3, 0, none⟩) h1w).trans HV.out
      have HVB : Hid (∀ o, (wr.alloc o).cell? ⟨3, 0, none⟩ = some pe) := fun o => Lib.cell?_alloc_some _ hvr
      clear hvr
      go_wp2_with fail
      refine (canEvent_any X _ _ te pe (HVB.out _) (J1.out _)).mono ?_
      rintro e w5 ⟨rfl, b5⟩
      have HB5 : Hid (Below w.heap.size w w5) := BW.out.trans (((below_box wr _).trans (b5.mono (by simp))).mono hsz)
      clear b5
      cases q1 : evOk X with
      | false =>
        have N := hid (can_miss hlt (by rw [HX'.out]; exact q1))
        go_wp2_with fail
        go_ret
        exact ⟨ret_b N.out, HB5.out⟩
      | true =>
        go_wp2_with fail
        go_roundg (l.length - (k + 1))
        case measure => omega
        case rel =>
          refine ⟨k + 1, by omega, by omega, by go_num, HB5.out, (show Aside _ from fun j hj => ?_)⟩
          by_cases e : j = k
          · subst e; rw [HX'.out]; exact q1
          · exact A.out j (by omega)
    · have N := hid (can_hit (l := l) (by omega) (fun j hj => A.out j (by omega)))
      go_wp2_with fail
      go_ret
      exact ⟨ret_b N.out, BW.out⟩
end Go.Proofs.YtegeiojcdjnmjaaGreatDoor
