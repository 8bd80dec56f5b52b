/-
  For every history, pair.Txns tells the transactions that the document does, or the fault, in memory of their own. No condition beyond the form's own reach; the listed package variable is as the program's text lays it.
-/
import Derived.Test.YtjobdfgcgnpppaaDoorJ12
import Derived.Test.YtjobdfgcgnpppaaDoorJ13
namespace Go.Proofs.YtjobdfgcgnpppaaDoor
set_option linter.unusedVariables false
set_option linter.unusedSimpArgs false
open Go.ChangeShapes Go.WideShapes Go.ChangeAt Go.RowKit

theorem tlcard_start (os : Os) : ∃ w0 : World, w0.os = os ∧
    (w0.forCall (fun _ _ => 0) ⟨#[], #[.slice none 0 0], []⟩).variablesRefB Tryd.prog = true ∧
    ((w0.forCall (fun _ _ => 0) ⟨#[], #[.slice none 0 0], []⟩).heap.toList.drop Tryd.prog.globals.size).take ((begin Tryd.prog (fun _ _ => 0) default).world.heap.size - Tryd.prog.globals.size) =
      (begin Tryd.prog (fun _ _ => 0) default).world.heap.toList.drop Tryd.prog.globals.size ∧
    Input.okWideB Tryd.prog (w0.forCall (fun _ _ => 0) ⟨#[], #[.slice none 0 0], []⟩) 4 ⟨#[], #[.slice none 0 0], []⟩ = true ∧
    laidMetH Tryd.prog Rows.pairTellsRow.laid (w0.forCall (fun _ _ => 0) ⟨#[], #[.slice none 0 0], []⟩).memory ∧
    (∀ (H : Type) (enc : TypeId × Value → H), ∃ places, DataW.whole enc Tryd.prog (w0.forCall (fun _ _ => 0) ⟨#[], #[.slice none 0 0], []⟩).memory Tryd.f4.params.toList Rows.pairTellsSpec.vars false #[Value.slice none 0 0].toList 8 = some ([.nil], [], places)) ∧
    (∀ (H : Type) (enc : TypeId × Value → H), (OpenSpec.ofChange Rows.pairTellsSpec).bare.sizedB enc Tryd.prog Tryd.f4 false (w0.forCall (fun _ _ => 0) ⟨#[], #[.slice none 0 0], []⟩).memory #[.slice none 0 0] 8 = true) :=
  ⟨{ World.holding Tryd.prog os ⟨#[], #[], []⟩ with heap := put (World.holding Tryd.prog os ⟨#[], #[], []⟩).heap 0 #[.iface 104 (.agg #[.pointer (some ⟨1, 25, none⟩)])] },
    rfl, by kernel_rfl, by kernel_rfl, by kernel_rfl, laidMetH_of_parts (laidMet_nil _ _) (by kernel_rfl), fun H enc => ⟨[], by kernel_rfl⟩, fun H enc => by kernel_rfl⟩

set_option maxHeartbeats 800000 in
set_option maxRecDepth 100000 in
theorem tlcard_lifted (os : Os) (started : os.Started) (H : Type) (enc : TypeId × Value → H) (F : Stop.Interp) :
    ReturnsInHanded {} Tryd.checked os 4 .any ((OpenSpec.ofChange Rows.pairTellsSpec).preRow enc Tryd.prog Tryd.f4 Rows.pairTellsRow.domain false Rows.pairTellsRow.laid) (((OpenSpec.ofChange Rows.pairTellsSpec).at F).post enc Tryd.prog Tryd.f4 false true false false) := by
  obtain ⟨w0, a1, a2, a3, a4, a5, a6, a7⟩ := tlcard_start os
  obtain ⟨places, hx⟩ := a6 H enc
  refine returnsInHanded_of_row (C := Tryd.checked) (s := OpenSpec.ofChange Rows.pairTellsSpec) Tryd.own started (by kernel_rfl) Tryd.func4
    (witness_row_atRef (enc := enc) (C := Tryd.checked) false w0 #[.slice none 0 0] a1 a2 a3 a4
      (OpenSpec.preRow_of_cond 8 hx rfl (fun k hk => by cases hk) (a7 H enc) a5)) ?_
  intro W base args ds gs before hval0 hW _ _ hsz0 hL _ _
  have hsz : (DataW.weightsEach Tryd.prog (Tryd.f4.params.toList ++ (OpenSpec.ofChange Rows.pairTellsSpec).bare.plain.varTypes Tryd.prog) (ds ++ gs)).all (· ≤ reachBytes) = true := hsz0
  have hval : ∀ (j : Nat) t v, Tryd.f4.params[j]? = some t → args[j]? = some v → Value.okWide Tryd.prog W .any base t v := hval0
  have hW' := hW
  obtain ⟨p, q, hA0, hV, rfl, _, _⟩ := hW
  have hA : DataW.TrodAll enc Tryd.prog W 0 (fun _ => true) true Tryd.f4.params.toList args.toList ds p := hA0
  rw [Tryd.params4] at hA hval hsz
  obtain ⟨v0, d0, rfl, rfl, h0⟩ := trodAll_one hA
  obtain ⟨rfl, rfl⟩ := trodVars_none hV
  obtain ⟨a0, len0, cap0, rfl⟩ := okWide_slice Tryd.underlying22 (hval 0 22 v0 rfl rfl)
  have h0k := h0
  obtain ⟨fuel0, hf0⟩ := h0
  clear hA0 hval0 hsz0
  simp only [List.append_nil] at hW'
  have hlt0 : ∀ y ∈ p, y.block < W.heap.size := fun y hy => by simpa using hW'.lt y (by simp [hy])
  have harg0 : ∀ W' : World, Below W.heap.size W W' → DataW.Trod enc Tryd.prog W' 0 (fun b => decide (b < W.heap.size)) true 22 (.slice a0 len0 cap0) d0 p :=
    fun W' hn => Below.trod Tryd.laidOut (by kernel_rfl) (of_decide_eq_true (by kernel_rfl)) h0k hn hlt0
  have hall := List.all_eq_true.1 hsz
  obtain ⟨u0, l, e0, ht, hfit⟩ := evs_of_trod hf0 (fun n hn => by simpa using hall n (DataW.weights_mem_each (j := 0) rfl rfl n hn))
  have e0' : Value.slice a0 len0 cap0 = u0 := by simpa [Value.cells] using e0
  subst e0'
  have hg := handle_of_laid hL
  refine (tells_walk W _ l ht (fun e he o ho => ((hfit e he).2 o ho).2) hg).mono fun e W' ⟨he, hn⟩ => ?_
  subst he
  exact ⟨_, rfl, _, _, _, [], _, [], hW', trodAll_mk1 (shut_bool Tryd.underlying4 true), trodAll_mk1 (harg0 _ hn), rfl, hn.frame _, fun h => by cases h⟩

theorem tlcard_said : Rows.PairTellsSaid :=
  OpenClaim.holds_of_cond 4 Tryd.f4 rfl rfl rfl rfl rfl rfl rfl ⟨rfl, rfl, rfl, rfl, rfl⟩ rfl rfl rfl rfl rfl (by kernel_rfl) Tryd.func4 (by kernel_rfl)
    (of_decide_eq_true (by kernel_rfl)) (by unfold Func.isWrapper; first | (rw [if_pos (by decide +kernel)]; kernel_rfl) | (rw [if_neg (by decide +kernel)]; exact ⟨rfl, rfl⟩))
    (fun os started H enc _ F => by rw [OpenClaim.pre_eq_preRow]; exact tlcard_lifted os started H enc F)

/-- No parameter wants a stand-in; the looks are on. -/
theorem tlcard_plain (f : FuncId) (fn : Func) (hf : Tryd.pinned.checked.prog.funcNamed Rows.pairTellsRow.func = some f) (hfn : Tryd.pinned.checked.prog.funcs[f]? = some fn) :
    true = Tryd.pinned.checked.prog.looks [] ∧ ∀ (j : Nat) t, fn.params[j]? = some t → Tryd.pinned.checked.prog.wantsStandIn t = false := by
  obtain rfl : f = 4 := Option.some.inj ((show Tryd.prog.funcNamed Rows.pairTellsRow.func = some 4 by kernel_rfl).symm.trans hf) |>.symm
  obtain rfl : fn = Tryd.f4 := (Option.some.inj (Tryd.func4.symm.trans hfn)).symm
  refine ⟨by kernel_rfl, fun j t ht => ?_⟩
  rw [Tryd.params4] at ht
  obtain rfl : t = 22 := by simpa using Array.mem_of_getElem? ht
  exact (show Tryd.prog.wantsStandIn 22 = false by kernel_rfl)

/-- For every history, pair.Txns tells the transactions that the document does, or the fault, in memory of their own. -/
theorem pairTells_card : Rows.PairTellsCardSaid :=
  Claim7.holds_tied_plain_at .later [] _ _ _ _ tlcard_said (fun _ h => by cases h) (by kernel_rfl) (fun _ h => by cases h) pairTells_row_tie rfl ⟨rfl, rfl⟩ (by kernel_rfl) rfl tlcard_plain (by kernel_rfl)

#print axioms pairTells_card
end Go.Proofs.YtjobdfgcgnpppaaDoor
