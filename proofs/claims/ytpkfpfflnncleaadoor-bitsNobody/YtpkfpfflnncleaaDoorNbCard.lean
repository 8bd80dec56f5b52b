/-
  For every int, a set that no call made answers that it is none, whatever is asked of it or with it. No condition; the listed package variable is as the library's text lays it.
-/
import Derived.Test.YtpkfpfflnncleaaDoorCards
import Derived.Test.YtpkfpfflnncleaaDoorTie
import Derived.Test.YtpkfpfflnncleaaDoorStart
import Derived.Test.YtpkfpfflnncleaaDoorB4
namespace Go.Proofs.YtpkfpfflnncleaaDoor
set_option linter.unusedVariables false
set_option linter.unusedSimpArgs false
open Go.ChangeShapes Go.WideShapes Go.ChangeAt Go.RowKit

set_option maxHeartbeats 800000 in
set_option maxRecDepth 100000 in
theorem nb_lifted (os : Os) (started : os.Started) (H : Type) (enc : TypeId × Value → H) (F : Stop.Interp) :
    ReturnsInHanded {} Tryd.checked os 5 .any ((OpenSpec.ofChange Rows.bitsNobodySpec).preRow enc Tryd.prog Tryd.f5 Rows.bitsNobodyRow.domain false Rows.bitsNobodyRow.laid) (((OpenSpec.ofChange Rows.bitsNobodySpec).at F).post enc Tryd.prog Tryd.f5 false true false false) := by
  obtain ⟨w0, a1, a2, a3, a4, a5, a6, a7⟩ := start_nb os
  obtain ⟨places, hx⟩ := a6 H enc
  refine returnsInHanded_of_row (C := Tryd.checked) (s := OpenSpec.ofChange Rows.bitsNobodySpec) Tryd.own started (by kernel_rfl) Tryd.func5
    (witness_row_atRef (enc := enc) (C := Tryd.checked) false w0 #[.int .i64 0] a1 a2 a3 a4
      (OpenSpec.preRow_of_cond 8 hx rfl (fun k hk => by cases hk) (a7 H enc) a5)) ?_
  intro W base args ds gs before hval0 hW _ _ _ hL _ _
  have hval : ∀ (j : Nat) t v, Tryd.f5.params[j]? = some t → args[j]? = some v → Value.okWide Tryd.prog W .any base t v := hval0
  have hW' := hW
  obtain ⟨p, q, hA0, hV, rfl, _, _⟩ := hW
  have hA : DataW.TrodAll enc Tryd.prog W 0 (fun _ => true) true Tryd.f5.params.toList args.toList ds p := hA0
  rw [Tryd.params5] at hA hval
  obtain ⟨v0, d0, rfl, rfl, h0⟩ := trodAll_one hA
  obtain ⟨rfl, rfl⟩ := trodVars_none hV
  obtain ⟨n, rfl, rfl, rfl, wn⟩ := open_int Tryd.underlying3 (hval 0 3 v0 rfl rfl) h0
  clear hA0 hval0
  simp only [List.append_nil] at hW'
  refine (nobody_walk n W).mono fun e W' ⟨he, hn⟩ => ?_
  subst he
  exact ⟨_, rfl, _, _, _, [], [], [], hW', trodAll_mk1 (shut_bool Tryd.underlying4 true), trodAll_mk1 (shut_int Tryd.underlying3 wn), rfl, hn.frame _, fun h => by cases h⟩

theorem nb_said : Rows.BitsNobodySaid :=
  OpenClaim.holds_of_cond 5 Tryd.f5 rfl rfl rfl rfl rfl rfl rfl ⟨rfl, rfl, rfl, rfl, rfl⟩ rfl rfl rfl rfl rfl (by kernel_rfl) Tryd.func5 (by kernel_rfl)
    (of_decide_eq_true (by kernel_rfl)) (by unfold Func.isWrapper; first | (rw [if_pos (by decide +kernel)]; kernel_rfl) | (rw [if_neg (by decide +kernel)]; exact ⟨rfl, rfl⟩))
    (fun os started H enc _ F => by rw [OpenClaim.pre_eq_preRow]; exact nb_lifted os started H enc F)

/-- No parameter wants a stand-in; the program's own looks are off. -/
theorem nb_plain (f : FuncId) (fn : Func) (hf : Tryd.pinned.checked.prog.funcNamed Rows.bitsNobodyRow.func = some f) (hfn : Tryd.pinned.checked.prog.funcs[f]? = some fn) :
    false = Tryd.pinned.checked.prog.looks [] ∧ ∀ (j : Nat) t, fn.params[j]? = some t → Tryd.pinned.checked.prog.wantsStandIn t = false := by
  obtain rfl : f = 5 := Option.some.inj ((show Tryd.prog.funcNamed Rows.bitsNobodyRow.func = some 5 by kernel_rfl).symm.trans hf) |>.symm
  obtain rfl : fn = Tryd.f5 := (Option.some.inj (Tryd.func5.symm.trans hfn)).symm
  refine ⟨by kernel_rfl, fun j t ht => ?_⟩
  rw [Tryd.params5] at ht
  obtain rfl : t = 3 := by simpa using Array.mem_of_getElem? ht
  exact (show Tryd.prog.wantsStandIn 3 = false by kernel_rfl)

/-- Whatever the number: the law answers true. -/
theorem bitsNobody_card : Rows.BitsNobodyCardSaid :=
  Claim7.holds_tied_plain_at .later [] _ _ _ _ nb_said (fun _ h => by cases h) (by kernel_rfl) (fun _ h => by cases h) bitsNobody_row_tie rfl ⟨rfl, rfl⟩ (by kernel_rfl) rfl nb_plain (by kernel_rfl)

#print axioms bitsNobody_card
end Go.Proofs.YtpkfpfflnncleaaDoor
