/-
  For every text that is read: what is printed of its history has one form, which is read as the same history and printed as the same text; and a text that is not read is told as the document's own definition tells it. No condition beyond the form's own reach; the listed package variables are as the program's text lays them.
-/
import Derived.Test.YtfgbjghfkdmcjaaGreatDoorCards
import Derived.Test.YtfgbjghfkdmcjaaGreatDoorTie
import Derived.Test.YtfgbjghfkdmcjaaGreatDoorF1
import Derived.Test.YtfgbjghfkdmcjaaGreatDoorF19
import Derived.Lib.LaidTab
namespace Go.Proofs.YtfgbjghfkdmcjaaGreatDoor
set_option linter.unusedVariables false
set_option linter.unusedSimpArgs false
open Go.ChangeShapes Go.WideShapes Go.ChangeAt Go.RowKit

/-- What the list gives of the powers of ten. -/
theorem pow10_of {W : World} (h : laidMet Tryz.prog Rows.histtextFormRow.laid W) : Lib.TabIs Tryz.prog W "internal/strconv.uint64pow10" .u64 Lib.pow10Tab := by
  have h2 : laidMet Tryz.prog (("internal/strconv.uint64pow10", Lib.tabData .u64 Lib.pow10Tab) :: _) W := h.tail.tail
  exact Lib.tabIs_of_head (g := 2) (t := 132) (e := 119) (n := 20) (by kernel_rfl) (by kernel_rfl) Tryz.underlying132 Tryz.underlying119 (by kernel_rfl) (by kernel_rfl) h2
set_option maxHeartbeats 800000 in
set_option maxRecDepth 100000 in
theorem form_lifted (os : Os) (started : os.Started) (H : Type) (enc : TypeId × Value → H) (F : Stop.Interp) :
    ReturnsInHanded {} Tryz.checked os 3 .any ((OpenSpec.ofChange Rows.histtextFormSpec).preRow enc Tryz.prog Tryz.f3 Rows.histtextFormRow.domain false Rows.histtextFormRow.laid) (((OpenSpec.ofChange Rows.histtextFormSpec).at F).post enc Tryz.prog Tryz.f3 false true false false) := by
  obtain ⟨w0, a1, a2, a3, a4, a5, a6, a7⟩ := start_ex os
  obtain ⟨places, hx⟩ := a6 H enc
  refine returnsInHanded_of_row (C := Tryz.checked) (s := OpenSpec.ofChange Rows.histtextFormSpec) Tryz.own started (by kernel_rfl) Tryz.func3
    (witness_row_atRef (enc := enc) (C := Tryz.checked) false w0 #[.string ⟨#[]⟩] a1 a2 a3 a4
      (OpenSpec.preRow_of_cond 8 hx rfl (fun k hk => by cases hk) (a7 H enc) a5)) ?_
  intro W base args ds gs before hval0 hW _ _ _ hL _ _
  have hval : ∀ (j : Nat) t v, Tryz.f3.params[j]? = some t → args[j]? = some v → Value.okWide Tryz.prog W .any base t v := hval0
  have hW' := hW
  obtain ⟨p, q, hA0, hV, rfl, _, _⟩ := hW
  have hA : DataW.TrodAll enc Tryz.prog W 0 (fun _ => true) true Tryz.f3.params.toList args.toList ds p := hA0
  rw [Tryz.params3] at hA hval
  obtain ⟨v0, d0, rfl, rfl, h0⟩ := trodAll_one hA
  obtain ⟨rfl, rfl⟩ := trodVars_none hV
  obtain ⟨s, rfl, rfl, rfl, ws⟩ := ChangeMaps.open_string Tryz.underlying9 (hval 0 9 v0 rfl rfl) h0
  clear hA0 hval0
  simp only [List.append_nil] at hW'
  obtain ⟨te0, pe0, hv0⟩ := errSyntax_cell hL
  obtain ⟨te1, pe1, hv1⟩ := errRange_cell hL
  refine (form_walk s W te0 te1 _ pe1 hv0 hv1 (pow10_of hL)).mono fun e W' ⟨he, hn⟩ => ?_
  subst he
  exact ⟨_, rfl, _, _, _, [], [], [], hW', trodAll_mk1 (shut_bool Tryz.underlying4 true), trodAll_mk1 (ChangeMaps.shut_string Tryz.underlying9 ws), rfl, hn.frame _, fun h => by cases h⟩

theorem form_said : Rows.HisttextFormSaid :=
  OpenClaim.holds_of_cond 3 Tryz.f3 rfl rfl rfl rfl rfl rfl rfl ⟨rfl, rfl, rfl, rfl, rfl⟩ rfl rfl rfl rfl rfl (by kernel_rfl) Tryz.func3 (by kernel_rfl)
    (of_decide_eq_true (by kernel_rfl)) (by unfold Func.isWrapper; first | (rw [if_pos (by decide +kernel)]; kernel_rfl) | (rw [if_neg (by decide +kernel)]; exact ⟨rfl, rfl⟩))
    (fun os started H enc _ F => by rw [OpenClaim.pre_eq_preRow]; exact form_lifted os started H enc F)

/-- No parameter wants a stand-in; the program's own looks are off. -/
theorem form_plain (f : FuncId) (fn : Func) (hf : Tryz.pinned.checked.prog.funcNamed Rows.histtextFormRow.func = some f) (hfn : Tryz.pinned.checked.prog.funcs[f]? = some fn) :
    true = Tryz.pinned.checked.prog.looks [] ∧ ∀ (j : Nat) t, fn.params[j]? = some t → Tryz.pinned.checked.prog.wantsStandIn t = false := by
  obtain rfl : f = 3 := Option.some.inj ((show Tryz.prog.funcNamed Rows.histtextFormRow.func = some 3 by kernel_rfl).symm.trans hf) |>.symm
  obtain rfl : fn = Tryz.f3 := (Option.some.inj (Tryz.func3.symm.trans hfn)).symm
  refine ⟨by kernel_rfl, fun j t ht => ?_⟩
  rw [Tryz.params3] at ht
  obtain rfl : t = 9 := by simpa using Array.mem_of_getElem? ht
  exact (show Tryz.prog.wantsStandIn 9 = false by kernel_rfl)

/-- Whatever the text: the law answers true. -/
theorem histtextForm_card : Rows.HisttextFormCardSaid :=
  Claim7.holds_tied_plain_at .later [] _ _ _ _ form_said (fun _ h => by cases h) (by kernel_rfl) (fun _ h => by cases h) histtextForm_row_tie rfl ⟨rfl, rfl⟩ (by kernel_rfl) rfl form_plain (by kernel_rfl)

#print axioms histtextForm_card
end Go.Proofs.YtfgbjghfkdmcjaaGreatDoor
