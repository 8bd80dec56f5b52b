/-
  For every text, histtext.Parse answers just what the document's own definition does: the history, or the first fault. No condition beyond the form's own reach; the listed package variables are as the program's text lays them.
-/
import Derived.Test.YtegeiojcdjnmjaaDoorCards
import Derived.Test.YtegeiojcdjnmjaaDoorTie
import Derived.Test.YtegeiojcdjnmjaaDoorP1
import Derived.Test.YtegeiojcdjnmjaaDoorP17
namespace Go.Proofs.YtegeiojcdjnmjaaDoor
set_option linter.unusedVariables false
set_option linter.unusedSimpArgs false
open Go.ChangeShapes Go.WideShapes Go.ChangeAt Go.RowKit

set_option maxHeartbeats 800000 in
set_option maxRecDepth 100000 in
theorem hreads_lifted (os : Os) (started : os.Started) (H : Type) (enc : TypeId × Value → H) (F : Stop.Interp) :
    ReturnsInHanded {} Tryd.checked os 3 .any ((OpenSpec.ofChange Rows.histtextReadsSpec).preRow enc Tryd.prog Tryd.f3 Rows.histtextReadsRow.domain false Rows.histtextReadsRow.laid) (((OpenSpec.ofChange Rows.histtextReadsSpec).at F).post enc Tryd.prog Tryd.f3 false true false false) := by
  obtain ⟨w0, a1, a2, a3, a4, a5, a6, a7⟩ := start_ex os
  obtain ⟨places, hx⟩ := a6 H enc
  refine returnsInHanded_of_row (C := Tryd.checked) (s := OpenSpec.ofChange Rows.histtextReadsSpec) Tryd.own started (by kernel_rfl) Tryd.func3
    (witness_row_atRef (enc := enc) (C := Tryd.checked) false w0 #[.string ⟨#[]⟩] a1 a2 a3 a4
      (OpenSpec.preRow_of_cond 8 hx rfl (fun k hk => by cases hk) (a7 H enc) a5)) ?_
  intro W base args ds gs before hval0 hW _ _ _ hL _ _
  have hval : ∀ (j : Nat) t v, Tryd.f3.params[j]? = some t → args[j]? = some v → Value.okWide Tryd.prog W .any base t v := hval0
  have hW' := hW
  obtain ⟨p, q, hA0, hV, rfl, _, _⟩ := hW
  have hA : DataW.TrodAll enc Tryd.prog W 0 (fun _ => true) true Tryd.f3.params.toList args.toList ds p := hA0
  rw [Tryd.params3] at hA hval
  obtain ⟨v0, d0, rfl, rfl, h0⟩ := trodAll_one hA
  obtain ⟨rfl, rfl⟩ := trodVars_none hV
  obtain ⟨s, rfl, rfl, rfl, ws⟩ := ChangeMaps.open_string Tryd.underlying9 (hval 0 9 v0 rfl rfl) h0
  clear hA0 hval0
  simp only [List.append_nil] at hW'
  obtain ⟨te, pe, hv⟩ := errRange_cell hL
  refine (hreads_walk s W te pe hv).mono fun e W' ⟨he, hn⟩ => ?_
  subst he
  exact ⟨_, rfl, _, _, _, [], [], [], hW', trodAll_mk1 (shut_bool Tryd.underlying4 true), trodAll_mk1 (ChangeMaps.shut_string Tryd.underlying9 ws), rfl, hn.frame _, fun h => by cases h⟩

theorem hreads_said : Rows.HisttextReadsSaid :=
  OpenClaim.holds_of_cond 3 Tryd.f3 rfl rfl rfl rfl rfl rfl rfl ⟨rfl, rfl, rfl, rfl, rfl⟩ rfl rfl rfl rfl rfl (by kernel_rfl) Tryd.func3 (by kernel_rfl)
    (of_decide_eq_true (by kernel_rfl)) (by unfold Func.isWrapper; first | (rw [if_pos (by decide +kernel)]; kernel_rfl) | (rw [if_neg (by decide +kernel)]; exact ⟨rfl, rfl⟩))
    (fun os started H enc _ F => by rw [OpenClaim.pre_eq_preRow]; exact hreads_lifted os started H enc F)

/-- No parameter wants a stand-in; the program's own looks are off. -/
theorem hreads_plain (f : FuncId) (fn : Func) (hf : Tryd.pinned.checked.prog.funcNamed Rows.histtextReadsRow.func = some f) (hfn : Tryd.pinned.checked.prog.funcs[f]? = some fn) :
    true = Tryd.pinned.checked.prog.looks [] ∧ ∀ (j : Nat) t, fn.params[j]? = some t → Tryd.pinned.checked.prog.wantsStandIn t = false := by
  obtain rfl : f = 3 := Option.some.inj ((show Tryd.prog.funcNamed Rows.histtextReadsRow.func = some 3 by kernel_rfl).symm.trans hf) |>.symm
  obtain rfl : fn = Tryd.f3 := (Option.some.inj (Tryd.func3.symm.trans hfn)).symm
  refine ⟨by kernel_rfl, fun j t ht => ?_⟩
  rw [Tryd.params3] at ht
  obtain rfl : t = 9 := by simpa using Array.mem_of_getElem? ht
  exact (show Tryd.prog.wantsStandIn 9 = false by kernel_rfl)

/-- Whatever the text: the law answers true. -/
theorem histtextReads_card : Rows.HisttextReadsCardSaid :=
  Claim7.holds_tied_plain_at .later [] _ _ _ _ hreads_said (fun _ h => by cases h) (by kernel_rfl) (fun _ h => by cases h) histtextReads_row_tie rfl ⟨rfl, rfl⟩ (by kernel_rfl) rfl hreads_plain (by kernel_rfl)

#print axioms histtextReads_card
end Go.Proofs.YtegeiojcdjnmjaaDoor
