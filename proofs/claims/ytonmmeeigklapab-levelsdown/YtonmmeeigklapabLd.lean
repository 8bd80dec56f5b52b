/-
  What a level allows all lower ones allow; what it refutes it does not: for every level, every kind, with real time or without, sure or not. No condition.
-/
import Derived.Test.YtonmmeeigklapabLv
import Derived.WalkKit
import Derived.ProofKit
import Derived.OpenShut
import Derived.LoopTactic
namespace Go.Proofs.Ytonmmeeigklapab
open Go.ChangeShapes Go.WideShapes Go.ChangeAt Go.RowKit
set_option linter.unusedVariables false
set_option linter.unusedSimpArgs false

theorem levelsDown_own : ownKnob Try.prog.godebug = none := by kernel_rfl

set_option maxHeartbeats 4000000 in
theorem levelsDown_walk (a0 : Int) (a1 : Int) (a2 : Bool) (a3 : Bool) (w0 : (Lit.int .i64 a0).wf = true) (w1 : (Lit.int .i64 a1).wf = true) (w : World) :
    Calls Try.prog 6 #[.int .i64 a0, .int .i64 a1, .bool a2, .bool a3] w fun e w' => e = .returned (.bool true) ∧ Grown w w' := by
  have hx : alwB (refL a1 a2 a3) a1 a2 a3 = false := by unfold alwB; rw [decide_eq_false (by omega)]; simp
  have hdown : ∀ low, 0 ≤ low → low < a0 → alwB a0 a1 a2 a3 = true → alwB low a1 a2 a3 = true := fun low h0 hl h => by
    unfold alwB at h ⊢
    simp only [Bool.and_eq_true, decide_eq_true_eq] at h
    have h6 : 0 ≤ a0 ∧ a0 < 6 := of_decide_eq_true h.1
    rw [lvB_yes h0 (by omega), decide_eq_true (by omega)]
    rfl
  have HD : Hid (∀ low, 0 ≤ low → low < a0 → alwB a0 a1 a2 a3 = true → alwB low a1 a2 a3 = true) := hdown
  have hlast : alwB 1 11 false true = true := rfl
  clear hdown
  go_enter Try.func6, Try.ntmps6
  go_wp2_with (first | (go_at_call 7; refine (refutes_is _ _ _ _).mono ?_; rintro e w' ⟨rfl, rfl⟩) | (go_at_call 8; refine (rrefutes_is _ _ _ _).mono ?_; rintro e w' ⟨rfl, rfl⟩) | (go_at_call 9; refine (allows_is _ _ _ _ _).mono ?_; rintro e w' ⟨rfl, rfl⟩))
  clear hx
  go_loop [10] (fun t => ∃ j : Int, 0 ≤ j ∧ (j = 0 ∨ j ≤ a0 ∧ a0 ≤ 5) ∧ t = .int .i64 j) (fun t => (6 - intOf t).toNat)
  case atStart => exact ⟨0, by omega, .inl rfl, rfl⟩
  case round =>
    obtain ⟨j, hj1, hj2, rfl⟩ := hrel
    have hj3 : j ≤ 5 := by omega
    by_cases hjl : j < a0
    · by_cases h5 : a0 ≤ 5
      · cases hb : alwB a0 a1 a2 a3 with
        | true =>
          have hb2 := HD.out j hj1 hjl hb
          go_wp2_with (go_at_call 9; refine (allows_is _ _ _ _ _).mono ?_; rintro e w' ⟨rfl, rfl⟩)
          go_round
          case rel => exact ⟨j + 1, by omega, .inr ⟨by omega, h5⟩, rfl⟩
          case measure => simp [intOf]; omega
        | false =>
          go_wp2_with (go_at_call 9; refine (allows_is _ _ _ _ _).mono ?_; rintro e w' ⟨rfl, rfl⟩)
          go_round
          case rel => exact ⟨j + 1, by omega, .inr ⟨by omega, h5⟩, rfl⟩
          case measure => simp [intOf]; omega
      · go_wp2_with (go_at_call 9; refine (allows_is _ _ _ _ _).mono ?_; rintro e w' ⟨rfl, rfl⟩)
        go_ret
        exact ⟨rfl, Grown.refl _⟩
    · go_wp2_with (go_at_call 9; refine (allows_is _ _ _ _ _).mono ?_; rintro e w' ⟨rfl, rfl⟩)
      go_ret
      exact ⟨rfl, Grown.refl _⟩

set_option maxRecDepth 100000 in
theorem levelsDown_lifted (os : Os) (started : os.Started) (H : Type) (enc : TypeId × Value → H) :
    ReturnsInHanded {} Try.checked os 6 .any (Rows.levelsDownSpec.pre6 enc Try.prog Try.f6 Rows.levelsDownRow.domain false) (Rows.levelsDownSpec.post enc Try.prog Try.f6 false true false false) := by
  refine returnsInHanded_of_change (C := Try.checked) levelsDown_own started (by kernel_rfl) Try.func6
    (ChangeSpec.witness6 (enc := enc) (C := Try.checked) false ⟨#[], #[.int .i64 0, .int .i64 0, .bool false, .bool false], []⟩ 8 (by kernel_rfl) (by kernel_rfl) (by kernel_rfl) (by kernel_rfl)) ?_
  intro W base args ds gs before hval0 hW hcnd _
  have hval : ∀ (j : Nat) t v, Try.f6.params[j]? = some t → args[j]? = some v → Value.okWide Try.prog W .any base t v := hval0
  have hW' := hW
  obtain ⟨p, q, hA0, hV, rfl, hfz, hnd⟩ := hW
  have hA : DataW.TrodAll enc Try.prog W 0 (fun _ => true) true Try.f6.params.toList args.toList ds p := hA0
  rw [Try.params6] at hA hval
  obtain ⟨v0, vs0, d0, ds0, p0, q0, hargs, rfl, rfl, h0, r0⟩ := trodAll_cons hA
  obtain ⟨v1, vs1, d1, ds1, p1, q1, rfl, rfl, rfl, h1, r1⟩ := trodAll_cons r0
  obtain ⟨v2, vs2, d2, ds2, p2, q2, rfl, rfl, rfl, h2, r2⟩ := trodAll_cons r1
  obtain ⟨v3, vs3, d3, ds3, p3, q3, rfl, rfl, rfl, h3, r3⟩ := trodAll_cons r2
  obtain ⟨rfl, rfl, rfl⟩ := trodAll_nil r3
  obtain rfl : args = #[v0, v1, v2, v3] := by cases args; simp_all
  obtain ⟨rfl, rfl⟩ := trodVars_none hV
  obtain ⟨a0, rfl, rfl, rfl, w0⟩ := open_int Try.underlying3 (hval 0 3 v0 rfl rfl) h0
  obtain ⟨a1, rfl, rfl, rfl, w1⟩ := open_int Try.underlying3 (hval 1 3 v1 rfl rfl) h1
  obtain ⟨a2, rfl, rfl, rfl⟩ := open_bool Try.underlying4 (hval 2 4 v2 rfl rfl) h2
  obtain ⟨a3, rfl, rfl, rfl⟩ := open_bool Try.underlying4 (hval 3 4 v3 rfl rfl) h3
  clear hA0 hval0
  simp only [List.append_nil] at hW'
  refine (levelsDown_walk a0 a1 a2 a3 w0 w1 W).mono fun e W' ⟨he, hg⟩ => ?_
  subst he
  exact ⟨_, rfl, post_of_same (pa := []) (pv := []) hW' (fun _ _ _ => (trodAll_cons_mk (shut_bool Try.underlying4 _) trodAll_mk0)) (fun sp _ => (trodAll_cons_mk (shut_int Try.underlying3 w0) (trodAll_cons_mk (shut_int Try.underlying3 w1) (trodAll_cons_mk (shut_bool Try.underlying4 _) (trodAll_cons_mk (shut_bool Try.underlying4 _) trodAll_mk0))))) (fun _ _ => rfl) rfl
    (hg.frame _) hg.2.1 (ok_one (by kernel_rfl) rfl (okWide_bool_mk Try.underlying4 _))⟩

theorem levelsDown_over : Rows.levelsDownRow.holds Try.pinned (OpenSpec.ofChange Rows.levelsDownSpec) :=
  OpenClaim.holds_of_wide 6 Try.f6 rfl rfl rfl rfl rfl rfl rfl ⟨rfl, rfl, rfl, rfl, rfl⟩ rfl rfl rfl rfl rfl (by kernel_rfl) Try.func6 (by kernel_rfl)
    (of_decide_eq_true (by kernel_rfl)) (by unfold Func.isWrapper; first | (rw [if_pos (by decide +kernel)]; kernel_rfl) | (rw [if_neg (by decide +kernel)]; exact ⟨rfl, rfl⟩))
    (fun os started H enc _ => levelsDown_lifted os started H enc)

/-- Whatever it is handed, the law answers true. -/
theorem levelsDown_proved : Rows.LevelsDownSaid :=
  levelsDown_over
#print axioms levelsDown_proved
end Go.Proofs.Ytonmmeeigklapab
