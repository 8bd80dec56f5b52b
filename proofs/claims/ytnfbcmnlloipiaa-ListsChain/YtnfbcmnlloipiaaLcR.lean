/-
  For every slice of transactions, the first forty of them, cut, done one after the other by a store: of each key the trace can be trusted, each of its values has one writer, and the writers of two values one behind the other, where they are two, are joined by a dependency of writes; and the table counts the transactions. No condition beyond the form's own reach.
-/
import Derived.Test.YtnfbcmnlloipiaaRows
import Derived.Test.YtnfbcmnlloipiaaV20
import Derived.ProofKit
import Derived.SizedLaws
namespace Go.Proofs.Ytnfbcmnlloipiaa
set_option linter.unusedVariables false
set_option linter.unusedSimpArgs false
open Go.ChangeShapes Go.WideShapes Go.ChangeAt Go.RowKit Go.ChangeMaps

theorem Try.ownLcR : ownKnob Try.prog.godebug = none := by kernel_rfl

set_option maxHeartbeats 800000 in
set_option maxRecDepth 100000 in
theorem LcR_lifted (os : Os) (started : os.Started) (H : Type) (enc : TypeId × Value → H) :
    ReturnsInHanded {} Try.checked os 6 .any (Rows.listsChainSpec.pre6 enc Try.prog Try.f6 Rows.listsChainRow.domain false) (Rows.listsChainSpec.post enc Try.prog Try.f6 false true false false) := by
  refine returnsInHanded_of_change_sized (C := Try.checked) Try.ownLcR started (by kernel_rfl) Try.func6
    (ChangeSpec.witness6 (enc := enc) (C := Try.checked) false ⟨#[], #[.slice none 0 0], []⟩ 8 (by kernel_rfl) (by kernel_rfl) (by kernel_rfl) (by kernel_rfl)) ?_
  intro W base args ds gs before hval0 hW _ hsz0 _
  have hsz : (DataW.weightsEach Try.prog (Try.f6.params.toList ++ Rows.listsChainSpec.plain.varTypes Try.prog) (ds ++ gs)).all (· ≤ reachBytes) = true := hsz0
  clear hsz0
  have hval : ∀ (j : Nat) t v, Try.f6.params[j]? = some t → args[j]? = some v → Value.okWide Try.prog W .any base t v := hval0
  have hW' := hW
  obtain ⟨p, q, hA0, hV, rfl, _, _⟩ := hW
  have hA : DataW.TrodAll enc Try.prog W 0 (fun _ => true) true Try.f6.params.toList args.toList ds p := hA0
  rw [Try.params6] at hA hval hsz
  obtain ⟨v0, vs0, d0, ds0, p0, q0, hargs, rfl, rfl, h0, r0⟩ := trodAll_cons hA
  obtain ⟨rfl, rfl, rfl⟩ := trodAll_nil r0
  obtain rfl : args = #[v0] := by cases args; simp_all
  obtain ⟨rfl, rfl⟩ := trodVars_none hV
  obtain ⟨a0, len0, cap0, rfl⟩ := okWide_slice Try.underlying22 (hval 0 22 v0 rfl rfl)

  have k0 := h0
  have lt0 : ∀ x ∈ p0, x.block < W.heap.size := by obtain ⟨m, hm⟩ := k0; exact DataW.trod_lt m _ _ _ hm
  obtain ⟨fuel0, hf0⟩ := h0
  clear hA0 hval0
  have hall := List.all_eq_true.1 hsz
  obtain ⟨u0, A, e0, hA1, hfit⟩ := Tx.txns_of_trod hf0 (fun n hn => by simpa using hall n (DataW.weights_mem_each (j := 0) rfl rfl n hn))
  have e0' : Value.slice a0 len0 cap0 = u0 := by simpa [Value.cells] using e0
  subst e0'
  refine (lchain_walk _ A W hA1 (fun t ht o ho => ⟨(hfit t ht o ho).1, (hfit t ht o ho).2.2.1⟩) (fun t ht o ho => (hfit t ht o ho).2.2.2)).mono fun e W' ⟨he, hn⟩ => ?_
  subst he
  exact ⟨_, rfl, _, _, _, [], _, [], hW', trodAll_mk1 (shut_bool Try.underlying4 true), (trodAll_cons_mk (Below.trod Try.laidOut (by kernel_rfl) (of_decide_eq_true (by kernel_rfl)) k0 hn lt0) trodAll_mk0), rfl, hn.frame _, fun h => by cases h⟩

/-- Whatever it is handed, the law answers true. -/
theorem listsChain_holds : Rows.ListsChainSaid :=
  OpenClaim.holds_of_wide 6 Try.f6 rfl rfl rfl rfl rfl rfl rfl ⟨rfl, rfl, rfl, rfl, rfl⟩ rfl rfl rfl rfl rfl (by kernel_rfl) Try.func6 (by kernel_rfl)
    (of_decide_eq_true (by kernel_rfl)) (by unfold Func.isWrapper; first | (rw [if_pos (by decide +kernel)]; kernel_rfl) | (rw [if_neg (by decide +kernel)]; exact ⟨rfl, rfl⟩))
    (fun os started H enc _ => LcR_lifted os started H enc)

#print axioms listsChain_holds
end Go.Proofs.Ytnfbcmnlloipiaa
