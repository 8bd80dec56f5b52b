/-
  Walks of the two functions that compare one operation and one event.
-/
import Derived.Test.YtodbpplgpaokjabW1
namespace Go.Proofs.Ytodbpplgpaokjab
open Go.RowKit

theorem ret_bool {a b : Bool} (h : a = b) : Ending.returned (.bool a) = .returned (.bool b) := by rw [h]

set_option maxHeartbeats 1000000 in
theorem sameOp_any {S T : Nat → Prop} (x y : MOp) (l1 l2 : Value) (w : World) (h1 : IntsIn S w l1 x.list) (h2 : IntsIn T w l2 y.list) :
    Calls Try.prog 12 #[.agg #[.int .i64 x.kind, .string x.key, .int .i64 x.value, l1, .bool x.has, .bool x.nl], .agg #[.int .i64 y.kind, .string y.key, .int .i64 y.value, l2, .bool y.has, .bool y.nl]] w
      fun e w' => e = .returned (.bool (opEq x y)) ∧ Below w.heap.size w w' := by
  obtain ⟨xk, xs, xv, xl, xh, xn⟩ := x
  obtain ⟨yk, ys, yv, yl, yh, yn⟩ := y
  obtain ⟨a1, c1, rfl, -⟩ := id h1
  obtain ⟨a2, c2, rfl, -⟩ := id h2
  simp only [opEq, MOp.kind, MOp.key, MOp.value, MOp.list, MOp.has, MOp.nl] at *
  generalize hw2 : (w.alloc (.cells #[.int .i64 xk, .string xs, .int .i64 xv, .slice a1 xl.length c1, .bool xh, .bool xn] 35)).alloc (.cells #[.int .i64 yk, .string ys, .int .i64 yv, .slice a2 yl.length c2, .bool yh, .bool yn] 35) = w2
  have B0 : Below w.heap.size w w2 := by rw [← hw2]; exact ((Below.refl _ w).alloc (Nat.le_refl _) _).alloc (by simp) _
  have hs : w.heap.size ≤ w2.heap.size := B0.size
  have H := hid (slicesEqual_any _ _ xl yl w2 (h1.keep (keeps_below B0) (fun _ _ h => h)) (h2.keep (keeps_below B0) (fun _ _ h => h)))
  rw [← hw2] at H B0 hs
  have HB := hid B0
  have HS := hid hs
  clear h1 h2 B0 hs hw2
  generalize intsEq xl yl = r at *
  cases q1 : (xk == yk)
  · go_enter Try.func12, Try.ntmps12
    go_wp2_with fail
    go_ret
    exact ⟨rfl, HB.out⟩
  cases q2 : (xs.toList == ys.toList)
  · go_enter Try.func12, Try.ntmps12
    go_wp2_with fail
    go_ret
    exact ⟨rfl, HB.out⟩
  cases q3 : (xv == yv)
  · go_enter Try.func12, Try.ntmps12
    go_wp2_with fail
    go_ret
    exact ⟨rfl, HB.out⟩
  cases q4 : (xh == yh)
  · go_enter Try.func12, Try.ntmps12
    go_wp2_with fail
    go_ret
    exact ⟨rfl, HB.out⟩
  cases q5 : (xn == yn)
  · go_enter Try.func12, Try.ntmps12
    go_wp2_with fail
    go_ret
    exact ⟨rfl, HB.out⟩
  · go_enter Try.func12, Try.ntmps12
    go_wp2_with (go_at_call 15; refine H.out.mono ?_; rintro e w' ⟨rfl, hb⟩)
    go_ret
    exact ⟨rfl, HB.out.trans (hb.mono HS.out)⟩
end Go.Proofs.Ytodbpplgpaokjab
