/-
  Trunc, and whether a part is whole, at the whole numbers from -10 to 10.
-/
import Derived.Test.YtcbflglnadmmfaaDoorPl2
import Derived.Laws.Externs
import Derived.Laws.Bits64
import Derived.Laws.BitsAll
import Derived.Laws.Shifts
import Derived.Laws.ShiftsVar
namespace Go.Proofs.YtcbflglnadmmfaaDoor
set_option linter.unusedVariables false
set_option linter.unusedSimpArgs false
open Go.RowKit

def whB (b : Nat) : Bool := FloatKind.f64.format.order 13860109328209412096 b == some .lt && FloatKind.f64.format.order b 4636737291354636288 == some .lt && FloatKind.f64.format.order b b == some .eq
def whAll : Bool := (List.range 21).all fun i => whB (fb ((i : Int) - 10))
theorem whAll_true : whAll = true := by decide +kernel
theorem run_arch (b : Nat) (w : World) (h : ∀ w, (Extern.MathFloor.toIntegral "math.archTrunc" .zero #[.float .f64 b]).run Tryd.prog w = .ok (.float .f64 b) w) : (callFunc 38 #[.float .f64 b]).run Tryd.prog w = .ok (.value (.float .f64 b)) w := by
  rw [run_callFunc_extern (e := Extern.MathFloor.toIntegral "math.archTrunc" .zero) Tryd.func38 (by kernel_rfl) (by kernel_rfl) (by kernel_rfl) (by kernel_rfl), h]
  rfl
theorem run_archTrunc (x : Int) (h : -10 ≤ x ∧ x ≤ 10) (w : World) : (callFunc 38 #[.float .f64 (fb x)]).run Tryd.prog w = .ok (.value (.float .f64 (fb x))) w := by
  have hx : x = (-10) ∨ x = (-9) ∨ x = (-8) ∨ x = (-7) ∨ x = (-6) ∨ x = (-5) ∨ x = (-4) ∨ x = (-3) ∨ x = (-2) ∨ x = (-1) ∨ x = 0 ∨ x = 1 ∨ x = 2 ∨ x = 3 ∨ x = 4 ∨ x = 5 ∨ x = 6 ∨ x = 7 ∨ x = 8 ∨ x = 9 ∨ x = 10 := by omega
  rcases hx with rfl | rfl | rfl | rfl | rfl | rfl | rfl | rfl | rfl | rfl | rfl | rfl | rfl | rfl | rfl | rfl | rfl | rfl | rfl | rfl | rfl
  · rw [(by decide +kernel : fb (-10) = 13845191154443747328)]; exact run_arch _ w (fun _ => rfl)
  · rw [(by decide +kernel : fb (-9) = 13844628204490326016)]; exact run_arch _ w (fun _ => rfl)
  · rw [(by decide +kernel : fb (-8) = 13844065254536904704)]; exact run_arch _ w (fun _ => rfl)
  · rw [(by decide +kernel : fb (-7) = 13842939354630062080)]; exact run_arch _ w (fun _ => rfl)
  · rw [(by decide +kernel : fb (-6) = 13841813454723219456)]; exact run_arch _ w (fun _ => rfl)
  · rw [(by decide +kernel : fb (-5) = 13840687554816376832)]; exact run_arch _ w (fun _ => rfl)
  · rw [(by decide +kernel : fb (-4) = 13839561654909534208)]; exact run_arch _ w (fun _ => rfl)
  · rw [(by decide +kernel : fb (-3) = 13837309855095848960)]; exact run_arch _ w (fun _ => rfl)
  · rw [(by decide +kernel : fb (-2) = 13835058055282163712)]; exact run_arch _ w (fun _ => rfl)
  · rw [(by decide +kernel : fb (-1) = 13830554455654793216)]; exact run_arch _ w (fun _ => rfl)
  · rw [(by decide +kernel : fb 0 = 0)]; exact run_arch _ w (fun _ => rfl)
  · rw [(by decide +kernel : fb 1 = 4607182418800017408)]; exact run_arch _ w (fun _ => rfl)
  · rw [(by decide +kernel : fb 2 = 4611686018427387904)]; exact run_arch _ w (fun _ => rfl)
  · rw [(by decide +kernel : fb 3 = 4613937818241073152)]; exact run_arch _ w (fun _ => rfl)
  · rw [(by decide +kernel : fb 4 = 4616189618054758400)]; exact run_arch _ w (fun _ => rfl)
  · rw [(by decide +kernel : fb 5 = 4617315517961601024)]; exact run_arch _ w (fun _ => rfl)
  · rw [(by decide +kernel : fb 6 = 4618441417868443648)]; exact run_arch _ w (fun _ => rfl)
  · rw [(by decide +kernel : fb 7 = 4619567317775286272)]; exact run_arch _ w (fun _ => rfl)
  · rw [(by decide +kernel : fb 8 = 4620693217682128896)]; exact run_arch _ w (fun _ => rfl)
  · rw [(by decide +kernel : fb 9 = 4621256167635550208)]; exact run_arch _ w (fun _ => rfl)
  · rw [(by decide +kernel : fb 10 = 4621819117588971520)]; exact run_arch _ w (fun _ => rfl)
/-- The bits of a number that is whole, by its test. -/
def WhB (b : Nat) : Prop := whB b = true ∧ ∀ w, (callFunc 38 #[.float .f64 b]).run Tryd.prog w = .ok (.value (.float .f64 b)) w
theorem wh_at (x : Int) (h : -10 ≤ x ∧ x ≤ 10) : WhB (fb x) := by
  refine ⟨?_, run_archTrunc x h⟩
  have h1 := whAll_true
  unfold whAll at h1
  rw [List.all_eq_true] at h1
  have h2 := h1 (x + 10).toNat (List.mem_range.2 (by omega))
  have e : (((x + 10).toNat : Nat) : Int) - 10 = x := by omega
  rw [e] at h2
  exact h2
set_option maxHeartbeats 2000000 in
set_option maxRecDepth 100000 in
theorem Trunc_is (b : Nat) (w : World) (h : WhB b) : Calls Tryd.prog 28 #[.float .f64 b] w fun e w' => e = .returned (.float .f64 b) ∧ w = w' := by
  have h1 := h.2
  go_enter Tryd.func28, Tryd.ntmps28
  go_wp2_with fail
  go_ret
  exact ⟨rfl, rfl⟩
set_option maxHeartbeats 2000000 in
set_option maxRecDepth 100000 in
theorem wholeP_is (b : Nat) (w : World) (h : WhB b) : Calls Tryd.prog 19 #[.float .f64 b] w fun e w' => e = .returned (.bool true) ∧ w = w' := by
  have h' := h
  have h' := h'.1
  unfold whB at h'
  simp only [Bool.and_eq_true, beq_iff_eq] at h'
  obtain ⟨⟨o1, o2⟩, o3⟩ := h'
  go_enter Tryd.func19, Tryd.ntmps19
  go_wp2_with (go_at_call 28; refine (Trunc_is _ _ h).mono ?_; rintro e w1 ⟨rfl, rfl⟩)
  go_ret
  exact ⟨rfl, rfl⟩
set_option maxHeartbeats 2000000 in
set_option maxRecDepth 100000 in
theorem whole_is (a b : Nat) (w : World) (h : WhB a) (k : WhB b) : Calls Tryd.prog 9 #[.complex .f64 a b] w fun e w' => e = .returned (.bool true) ∧ w = w' := by
  go_enter Tryd.func9, Tryd.ntmps9
  go_wp2_with (go_at_call 19; refine (wholeP_is _ _ (by first | exact h | exact k)).mono ?_; rintro e w1 ⟨rfl, rfl⟩)
  go_ret
  exact ⟨rfl, rfl⟩
set_option maxHeartbeats 2000000 in
set_option maxRecDepth 100000 in
theorem whole1_is (a b : Nat) (w : World) (h : WhB a) (k : WhB b) : Calls Tryd.prog 23 #[.complex .f64 a b] w fun e w' => e = .returned (.bool false) ∧ w = w' := by
  go_enter Tryd.func23, Tryd.ntmps23
  go_wp2_with (go_at_call 9; refine (whole_is _ _ _ h k).mono ?_; rintro e w1 ⟨rfl, rfl⟩)
  go_ret
  exact ⟨rfl, rfl⟩
end Go.Proofs.YtcbflglnadmmfaaDoor
