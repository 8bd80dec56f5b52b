/-
  The law BitsLives where a bound is none.
-/
import Derived.Test.YtpkfpfflnncleaaDoorR3
namespace Go.Proofs.YtpkfpfflnncleaaDoor
set_option linter.unusedVariables false
set_option linter.unusedSimpArgs false
open Go.RowKit

set_option maxHeartbeats 4000000 in
set_option maxRecDepth 100000 in
theorem lives_bad1 (n m : Int) (v : Value) (w : World) (hn : n < 0 ∨ 4096 < n) (hm : m < 0 ∨ 4096 < m) :
    Calls Tryd.prog 3 #[.int .i64 n, .int .i64 m, v] w fun e w' => e = .returned (.bool true) ∧ Below w.heap.size w w' := by
  have N1 := hid (new_no n hn)
  have N2 := hid (rnew_no n hn)
  have M1 := hid (new_no m hm)
  have M2 := hid (rnew_no m hm)
  clear hn hm
  go_enter Tryd.func3, Tryd.ntmps3
  go_wp2_with fail
  refine (N1.out _).mono ?_
  rintro e w' ⟨rfl, rfl⟩
  go_wp2_with fail
  refine (N2.out _).mono ?_
  rintro e w' ⟨rfl, rfl⟩
  go_wp2_with fail
  refine (M1.out _).mono ?_
  rintro e w' ⟨rfl, rfl⟩
  go_wp2_with fail
  refine (M2.out _).mono ?_
  rintro e w' ⟨rfl, rfl⟩
  go_wp2_with fail
  go_ret
  exact ⟨rfl, Below.refl _ _⟩
set_option maxHeartbeats 4000000 in
set_option maxRecDepth 100000 in
theorem lives_bad2 (n : Int) (M : Nat) (v : Value) (w : World) (hn : n < 0 ∨ 4096 < n) (hm : M ≤ 4096) :
    Calls Tryd.prog 3 #[.int .i64 n, .int .i64 M, v] w fun e w' => e = .returned (.bool true) ∧ Below w.heap.size w w' := by
  have N1 := hid (new_no n hn)
  have N2 := hid (rnew_no n hn)
  have M1 := hid (new_is M hm)
  have M2 := hid (rnew_ok M hm)
  clear hn hm
  go_enter Tryd.func3, Tryd.ntmps3
  go_wp2_with fail
  refine (N1.out _).mono ?_
  rintro e w' ⟨rfl, rfl⟩
  go_wp2_with fail
  refine (N2.out _).mono ?_
  rintro e w' ⟨rfl, rfl⟩
  go_wp2_with fail
  refine (M1.out _).mono ?_
  rintro e w1 ⟨rfl, s1, b1, z1⟩
  have B1 := hid b1
  clear s1 b1 z1
  go_wp2_with fail
  refine (M2.out _).mono ?_
  rintro e w2 ⟨rfl, s2, b2, z2⟩
  have B2 : Hid (Below w.heap.size w w2) := B1.out.trans (b2.mono B1.out.size)
  clear s2 b2 z2
  go_wp2_with fail
  go_ret
  exact ⟨rfl, B2.out⟩
set_option maxHeartbeats 4000000 in
set_option maxRecDepth 100000 in
theorem lives_bad3 (N : Nat) (m : Int) (v : Value) (w : World) (hn : N ≤ 4096) (hm : m < 0 ∨ 4096 < m) :
    Calls Tryd.prog 3 #[.int .i64 N, .int .i64 m, v] w fun e w' => e = .returned (.bool true) ∧ Below w.heap.size w w' := by
  have N1 := hid (new_is N hn)
  have N2 := hid (rnew_ok N hn)
  have M1 := hid (new_no m hm)
  have M2 := hid (rnew_no m hm)
  clear hn hm
  go_enter Tryd.func3, Tryd.ntmps3
  go_wp2_with fail
  refine (N1.out _).mono ?_
  rintro e w1 ⟨rfl, s1, b1, z1⟩
  have B1 := hid b1
  clear s1 b1 z1
  go_wp2_with fail
  refine (N2.out _).mono ?_
  rintro e w2 ⟨rfl, s2, b2, z2⟩
  have B2 : Hid (Below w.heap.size w w2) := B1.out.trans (b2.mono B1.out.size)
  clear s2 b2 z2 B1
  go_wp2_with fail
  refine (M1.out _).mono ?_
  rintro e w' ⟨rfl, rfl⟩
  go_wp2_with fail
  refine (M2.out _).mono ?_
  rintro e w' ⟨rfl, rfl⟩
  go_wp2_with fail
  go_ret
  exact ⟨rfl, B2.out⟩
end Go.Proofs.YtpkfpfflnncleaaDoor
