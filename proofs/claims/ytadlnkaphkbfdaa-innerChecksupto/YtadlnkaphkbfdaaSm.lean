/-
  Walks of assayerplain's SameOps and of what it calls.
-/
import Derived.Test.YtadlnkaphkbfdaaT2
import Derived.Deep.QuietTactic
import Derived.BigQuiet
import Derived.Outline
namespace Go.Proofs.Ytadlnkaphkbfdaa.Tx
set_option linter.unusedVariables false
set_option linter.unusedSimpArgs false
open Go.RowKit Go.Lib

/-- The int at each place of a slice of length n. -/
def IntCells (w : World) (ao : Option Addr) (xs : List Int) (n : Nat) : Prop := ∀ j, j < n → ∃ b o, ao = some ⟨b, o, none⟩ ∧ w.cell? ⟨b, o + j, none⟩ = some (.int .i64 (xs.getD j default))

theorem ints_cells {S : Nat → Prop} {w : World} {v : Value} {l : List Int} (h : IntsIn S w v l) : ∃ ao c, v = .slice ao l.length c ∧ l.length * 8 ≤ 140737488355328 ∧ IntCells w ao l l.length := by
  obtain ⟨ao, c, hv, hl, hc⟩ := h
  refine ⟨ao, c, hv, hl.1, fun j hj => ?_⟩
  obtain ⟨b, off, ha, _, hcc⟩ := hc (by omega)
  exact ⟨b, off, ha, hcc j hj⟩

set_option maxHeartbeats 400000 in
theorem slicesEqual_walk (a1 a2 : Option Addr) (c1 c2 n : Nat) (xs ys : List Int) (w : World) (hx : xs.length = n) (hy : ys.length = n) (_hbig : n ≤ 9223372036854775807)
    (h1 : IntCells w a1 xs n) (h2 : IntCells w a2 ys n) :
    Calls Try.prog 12 #[.slice a1 n c1, .slice a2 n c2] w fun e w' => e = .returned (.bool (intsEq xs ys)) ∧ Below w.heap.size w w' := by
  have HX : Hid (xs.length = n) := hx
  have HY : Hid (ys.length = n) := hy
  clear hx hy
  go_enter Try.func12, Try.ntmps12
  go_wp2
  go_loopg [5, 13] n (fun g _ i wr => ∃ k : Nat, k ≤ n ∧ n - k ≤ g ∧ i = .int .i64 k ∧ Aside (∃ q, wr = w.drewN q) ∧ Aside (∀ j, j < k → (xs.getD j default == ys.getD j default) = true))
  case atStart => exact ⟨0, Nat.zero_le _, by omega, rfl, ⟨0, rfl⟩, fun j hj => absurd hj (Nat.not_lt_zero _)⟩
  case round =>
    obtain ⟨k, hk, hg, rfl, ⟨q, rfl⟩, A⟩ := hrel
    by_cases hlt : k < n
    · have hlti : (k : Int) < (n : Int) := by omega
      obtain ⟨b1, o1, rfl, k1⟩ := h1 k hlt
      obtain ⟨b2, o2, rfl, k2⟩ := h2 k hlt
      clear h1 h2
      generalize hX : xs.getD k default = X at k1
      generalize hY : ys.getD k default = Y at k2
      have HX' : Hid (xs.getD k default = X) := hX
      have HY' : Hid (ys.getD k default = Y) := hY
      clear hX hY
      cases hq : (X == Y) with
      | true =>
        have hne : (X != Y) = false := by simp [bne, hq]
        have HQ : Hid ((X == Y) = true) := hq
        clear hq
        go_wp2
        go_quiet (fail)
        go_wp2
        go_roundg (n - (k + 1))
        case measure => omega
        case rel =>
          refine ⟨k + 1, by omega, by omega, by go_num, ⟨_, rfl⟩, (show Aside _ from fun j hj => ?_)⟩
          by_cases e : j = k
          · subst e; rw [HX'.out, HY'.out]; exact HQ.out
          · exact A.out j (by omega)
      | false =>
        have hne : (X != Y) = true := by simp [bne, hq]
        have HQ : Hid ((X == Y) = false) := hq
        clear hq
        go_wp2
        go_quiet (fail)
        go_wp2
        go_ret
        refine ⟨?_, ⟨rfl, rfl, rfl, Nat.le_refl _, fun _ _ => rfl⟩⟩
        rw [show intsEq xs ys = false from allEq_miss _ xs ys k (by rw [HX.out]; exact hlt) (by rw [HX'.out, HY'.out]; exact HQ.out)]
        rfl
    · go_wp2
      go_ret
      refine ⟨?_, ⟨rfl, rfl, rfl, Nat.le_refl _, fun _ _ => rfl⟩⟩
      rw [show intsEq xs ys = true from allEq_hit _ xs ys (by rw [HX.out, HY.out]) (fun j hj => A.out j (by rw [HX.out] at hj; omega))]
      rfl

theorem slicesEqual_lens (a1 a2 : Option Addr) (c1 c2 n m : Nat) (w : World) (hnm : n ≠ m) :
    Calls Try.prog 12 #[.slice a1 n c1, .slice a2 m c2] w fun e w' => e = .returned (.bool false) ∧ Below w.heap.size w w' := by
  have hne : ((n : Int) != (m : Int)) = true := by rw [bne_iff_ne]; omega
  go_enter Try.func12, Try.ntmps12
  go_wp2
  go_ret
  exact ⟨rfl, Below.refl _ _⟩

/-- slices.Equal tells whether two lists of ints are the same. -/
theorem slicesEqual_any {S T : Nat → Prop} (v1 v2 : Value) (xs ys : List Int) (w : World) (h1 : IntsIn S w v1 xs) (h2 : IntsIn T w v2 ys) :
    Calls Try.prog 12 #[v1, v2] w fun e w' => e = .returned (.bool (intsEq xs ys)) ∧ Below w.heap.size w w' := by
  obtain ⟨a1, c1, rfl, l1, k1⟩ := ints_cells h1
  obtain ⟨a2, c2, rfl, l2, k2⟩ := ints_cells h2
  by_cases h : xs.length = ys.length
  · rw [← h] at k2 ⊢
    exact slicesEqual_walk a1 a2 c1 c2 xs.length xs ys w rfl h.symm (by omega) k1 k2
  · rw [show intsEq xs ys = false from allEq_len _ xs ys h]
    exact slicesEqual_lens a1 a2 c1 c2 _ _ w h


theorem ret_bool {a b : Bool} (h : a = b) : Ending.returned (.bool a) = .returned (.bool b) := by rw [h]

set_option maxHeartbeats 1000000 in
theorem sameOp_any {S T : Nat → Prop} (x y : MOp) (l1 l2 : Value) (w : World) (h1 : IntsIn S w l1 x.list) (h2 : IntsIn T w l2 y.list) :
    Calls Try.prog 45 #[.agg #[.int .i64 x.kind, .string x.key, .int .i64 x.value, l1, .bool x.has, .bool x.nl], .agg #[.int .i64 y.kind, .string y.key, .int .i64 y.value, l2, .bool y.has, .bool y.nl]] w
      fun e w' => e = .returned (.bool (opEq x y)) ∧ Below w.heap.size w w' := by
  obtain ⟨xk, xs, xv, xl, xh, xn⟩ := x
  obtain ⟨yk, ys, yv, yl, yh, yn⟩ := y
  obtain ⟨a1, c1, rfl, -⟩ := id h1
  obtain ⟨a2, c2, rfl, -⟩ := id h2
  simp only [opEq, MOp.kind, MOp.key, MOp.value, MOp.list, MOp.has, MOp.nl] at *
  generalize hw2 : (w.alloc (.cells #[.int .i64 xk, .string xs, .int .i64 xv, .slice a1 xl.length c1, .bool xh, .bool xn] 31)).alloc (.cells #[.int .i64 yk, .string ys, .int .i64 yv, .slice a2 yl.length c2, .bool yh, .bool yn] 31) = w2
  have B0 : Below w.heap.size w w2 := by rw [← hw2]; exact ((Below.refl _ w).alloc (Nat.le_refl _) _).alloc (by simp) _
  have hs : w.heap.size ≤ w2.heap.size := B0.size
  have H := hid (slicesEqual_any _ _ xl yl w2 (h1.keep (keeps_below B0) (fun _ _ h => h)) (h2.keep (keeps_below B0) (fun _ _ h => h)))
  rw [← hw2] at H B0 hs
  have HB := hid B0
  have HS := hid hs
  clear h1 h2 B0 hs hw2
  generalize intsEq xl yl = r at *
  cases q1 : (xk == yk)
  · go_enter Try.func45, Try.ntmps45
    go_wp2_with fail
    go_ret
    exact ⟨rfl, HB.out⟩
  cases q2 : (xs.toList == ys.toList)
  · go_enter Try.func45, Try.ntmps45
    go_wp2_with fail
    go_ret
    exact ⟨rfl, HB.out⟩
  cases q3 : (xv == yv)
  · go_enter Try.func45, Try.ntmps45
    go_wp2_with fail
    go_ret
    exact ⟨rfl, HB.out⟩
  cases q4 : (xh == yh)
  · go_enter Try.func45, Try.ntmps45
    go_wp2_with fail
    go_ret
    exact ⟨rfl, HB.out⟩
  cases q5 : (xn == yn)
  · go_enter Try.func45, Try.ntmps45
    go_wp2_with fail
    go_ret
    exact ⟨rfl, HB.out⟩
  · go_enter Try.func45, Try.ntmps45
    go_wp2_with (go_at_call 12; refine H.out.mono ?_; rintro e w' ⟨rfl, hb⟩)
    go_ret
    exact ⟨rfl, HB.out.trans (hb.mono HS.out)⟩

set_option maxHeartbeats 1000000 in
theorem equalOps_walk {S T : Nat → Prop} (a1 a2 : Option Addr) (c1 c2 n : Nat) (xs ys : List MOp) (w : World) (hx : xs.length = n) (hy : ys.length = n) (_hbig : n ≤ 9223372036854775807)
    (h1 : RowCells 6 (OpRow S w) w a1 xs n) (h2 : RowCells 6 (OpRow T w) w a2 ys n) :
    Calls Try.prog 44 #[.slice a1 n c1, .slice a2 n c2, .func (.func 45) #[] #[]] w fun e w' => e = .returned (.bool (opsEq xs ys)) ∧ Below w.heap.size w w' := by
  have HX : Hid (xs.length = n) := hx
  have HY : Hid (ys.length = n) := hy
  clear hx hy
  go_enter Try.func44, Try.ntmps44
  go_wp2
  go_loopg [7, 8, 9, 17] n (fun g _ _ _ i wr => ∃ k : Nat, k ≤ n ∧ n - k ≤ g ∧ i = .int .i64 k ∧ Aside (Below w.heap.size w wr) ∧ Aside (∀ j, j < k → opEq (xs.getD j default) (ys.getD j default) = true))
  case atStart => exact ⟨0, Nat.zero_le _, by omega, rfl, Below.refl _ _, fun j hj => absurd hj (Nat.not_lt_zero _)⟩
  case round =>
    obtain ⟨k, hk, hg, rfl, BW, A⟩ := hrel
    by_cases hlt : k < n
    · have hlti : (k : Int) < (n : Int) := by omega
      obtain ⟨b1, o1, cs1, rfl, hb1, _, ⟨l1, rfl, i1⟩, k1⟩ := h1 k hlt
      obtain ⟨b2, o2, cs2, rfl, hb2, _, ⟨l2, rfl, i2⟩, k2⟩ := h2 k hlt
      clear h1 h2
      have d0 : wr.cell? ⟨b1, o1 + k * 6, none⟩ = _ := (BW.out.cell (p := ⟨b1, o1 + k * 6, none⟩) hb1).trans (k1 0 _ rfl)
      have d1 := (BW.out.cell (p := ⟨b1, o1 + k * 6 + 1, none⟩) hb1).trans (k1 1 _ rfl)
      have d2 := (BW.out.cell (p := ⟨b1, o1 + k * 6 + 2, none⟩) hb1).trans (k1 2 _ rfl)
      have d3 := (BW.out.cell (p := ⟨b1, o1 + k * 6 + 3, none⟩) hb1).trans (k1 3 _ rfl)
      have d4 := (BW.out.cell (p := ⟨b1, o1 + k * 6 + 4, none⟩) hb1).trans (k1 4 _ rfl)
      have d5 := (BW.out.cell (p := ⟨b1, o1 + k * 6 + 5, none⟩) hb1).trans (k1 5 _ rfl)
      have e0 : wr.cell? ⟨b2, o2 + k * 6, none⟩ = _ := (BW.out.cell (p := ⟨b2, o2 + k * 6, none⟩) hb2).trans (k2 0 _ rfl)
      have e1 := (BW.out.cell (p := ⟨b2, o2 + k * 6 + 1, none⟩) hb2).trans (k2 1 _ rfl)
      have e2 := (BW.out.cell (p := ⟨b2, o2 + k * 6 + 2, none⟩) hb2).trans (k2 2 _ rfl)
      have e3 := (BW.out.cell (p := ⟨b2, o2 + k * 6 + 3, none⟩) hb2).trans (k2 3 _ rfl)
      have e4 := (BW.out.cell (p := ⟨b2, o2 + k * 6 + 4, none⟩) hb2).trans (k2 4 _ rfl)
      have e5 := (BW.out.cell (p := ⟨b2, o2 + k * 6 + 5, none⟩) hb2).trans (k2 5 _ rfl)
      clear k1 k2
      have hsz := BW.out.size
      have hb2r : b2 < wr.heap.size := Nat.lt_of_lt_of_le hb2 hsz
      have hne2 : b2 ≠ wr.heap.size := by omega
      have j1 := i1.keep (keeps_below BW.out) (fun _ _ h => h)
      have j2 := i2.keep (keeps_below BW.out) (fun _ _ h => h)
      clear i1 i2
      have HA : Hid (∀ b, b = opEq (xs.getD k default) (ys.getD k default) → b = opEq (xs.getD k default) (ys.getD k default)) := fun _ h => h
      generalize hX : xs.getD k default = X at *
      generalize hY : ys.getD k default = Y at *
      have HX' := hid hX
      have HY' := hid hY
      clear hX hY HA
      obtain ⟨al1, cl1, rfl, -⟩ := id j1
      obtain ⟨al2, cl2, rfl, -⟩ := id j2
      go_wp2_with fail
      refine (sameOp_any (S := S) (T := T) X Y _ _ _ (j1.keep (keeps_below (((Below.refl _ wr).alloc (Nat.le_refl _) _).alloc (by simp) _)) (fun _ _ h => h)) (j2.keep (keeps_below (((Below.refl _ wr).alloc (Nat.le_refl _) _).alloc (by simp) _)) (fun _ _ h => h))).mono ?_
      rintro e w' ⟨rfl, hb⟩
      have hbw : Below w.heap.size w w' := (BW.out.trans ((((Below.refl _ wr).alloc (Nat.le_refl _) _).alloc (by simp) _).mono hsz)).trans (hb.mono (by simp; omega))
      have HB := hid hbw
      clear hb hbw j1 j2 d0 d1 d2 d3 d4 d5 e0 e1 e2 e3 e4 e5
      generalize hq : opEq X Y = r
      have HQ := hid hq
      clear hq
      cases r with
      | false =>
        go_wp2
        go_ret
        refine ⟨?_, HB.out⟩
        rw [show opsEq xs ys = false from allEq_miss _ xs ys k (by rw [HX.out]; exact hlt) (by rw [HX'.out, HY'.out]; exact HQ.out)]
        rfl
      | true =>
        go_wp2
        go_roundg (n - (k + 1))
        case measure => omega
        case rel =>
          refine ⟨k + 1, by omega, by omega, by go_num, HB.out, (show Aside _ from fun j hj => ?_)⟩
          by_cases e : j = k
          · subst e; rw [HX'.out, HY'.out]; exact HQ.out
          · exact A.out j (by omega)
    · go_wp2
      go_ret
      refine ⟨?_, BW.out⟩
      rw [show opsEq xs ys = true from allEq_hit _ xs ys (by rw [HX.out, HY.out]) (fun j hj => A.out j (by rw [HX.out] at hj; omega))]
      rfl
theorem equalOps_lens (a1 a2 : Option Addr) (c1 c2 n m : Nat) (fv : Value) (w : World) (hnm : n ≠ m) :
    Calls Try.prog 44 #[.slice a1 n c1, .slice a2 m c2, fv] w fun e w' => e = .returned (.bool false) ∧ Below w.heap.size w w' := by
  have hne : ((n : Int) != (m : Int)) = true := by rw [bne_iff_ne]; omega
  go_enter Try.func44, Try.ntmps44
  go_wp2
  go_ret
  exact ⟨rfl, Below.refl _ _⟩

/-- slices.EqualFunc with sameOp tells whether two lists of operations are the same. -/
theorem equalOps_any {S T : Nat → Prop} (v1 v2 : Value) (xs ys : List MOp) (w : World) (h1 : OpsIn S w v1 xs) (h2 : OpsIn T w v2 ys) :
    Calls Try.prog 44 #[v1, v2, .func (.func 45) #[] #[]] w fun e w' => e = .returned (.bool (opsEq xs ys)) ∧ Below w.heap.size w w' := by
  obtain ⟨a1, c1, rfl, l1, k1⟩ := RowsIn.cells h1 (by omega)
  obtain ⟨a2, c2, rfl, l2, k2⟩ := RowsIn.cells h2 (by omega)
  by_cases h : xs.length = ys.length
  · rw [← h] at k2 ⊢
    exact equalOps_walk a1 a2 c1 c2 xs.length xs ys w rfl h.symm (by omega) k1 k2
  · rw [show opsEq xs ys = false from allEq_len _ xs ys h]
    exact equalOps_lens a1 a2 c1 c2 _ _ _ w h

/-- SameOps tells whether two lists of operations are the same. -/
theorem sameOps_any {S T : Nat → Prop} (v1 v2 : Value) (xs ys : List MOp) (w : World) (h1 : OpsIn S w v1 xs) (h2 : OpsIn T w v2 ys) :
    Calls Try.prog 17 #[v1, v2] w fun e w' => e = .returned (.bool (opsEq xs ys)) ∧ Below w.heap.size w w' := by
  have H := hid (equalOps_any v1 v2 xs ys w h1 h2)
  obtain ⟨a1, c1, rfl, -⟩ := id h1
  obtain ⟨a2, c2, rfl, -⟩ := id h2
  clear h1 h2
  go_enter Try.func17, Try.ntmps17
  go_wp2_with (go_at_call 44; refine H.out.mono ?_; rintro e w' ⟨rfl, hb⟩)
  go_ret
  exact ⟨rfl, hb⟩
end Go.Proofs.Ytadlnkaphkbfdaa.Tx
