/-
  For every list of operations whose reading holds together at most 1048576 values and letters, Check, External and Finals answer as the document's own definitions do, and the operations stay. The condition: that bound (what is known of a list is as long as what was read and what was appended together).
-/
import Derived.Test.YtadlnkaphkbfdaaRows
import Derived.Test.YtadlnkaphkbfdaaIn41
import Derived.Test.YtadlnkaphkbfdaaBu
namespace Go.Proofs.Ytadlnkaphkbfdaa
set_option linter.unusedVariables false
set_option linter.unusedSimpArgs false
open Go.ChangeShapes Go.WideShapes Go.ChangeAt Go.RowKit

set_option maxHeartbeats 800000 in
set_option maxRecDepth 100000 in
theorem checks_lifted (os : Os) (started : os.Started) (H : Type) (enc : TypeId × Value → H) (F : Stop.Interp) :
    ReturnsInHanded {} Try.checked os 3 .any ((Rows.OpenSpec.upto Rows.innerChecksSpec).pre6 enc Try.prog Try.f3 Rows.innerChecksUptoRow.domain false) (((Rows.OpenSpec.upto Rows.innerChecksSpec).at F).post enc Try.prog Try.f3 false true false false) := by
  refine returnsInHanded_of_cond_sized (C := Try.checked) (s := Rows.OpenSpec.upto Rows.innerChecksSpec) (k := Rows.uptoSmall) rfl Try.ownS started (by kernel_rfl) Try.func3
    (OpenSpec.witness (enc := enc) (C := Try.checked) (s := Rows.OpenSpec.upto Rows.innerChecksSpec) (k := Rows.uptoSmall) rfl false ⟨#[], #[.slice none 0 0], []⟩ 8 (by kernel_rfl) (by kernel_rfl) (by kernel_rfl)
      (x := ([.nil], [], [])) (by kernel_rfl) rfl (by kernel_rfl)) ?_
  intro W base args ds gs before hval0 hW _ hcond hsz0 _
  have hsz : (DataW.weightsEach Try.prog (Try.f3.params.toList ++ Rows.innerChecksSpec.plain.varTypes Try.prog) (ds ++ gs)).all (· ≤ reachBytes) = true := hsz0
  clear hsz0
  have hval : ∀ (j : Nat) t v, Try.f3.params[j]? = some t → args[j]? = some v → Value.okWide Try.prog W .any base t v := hval0
  have hW' := hW
  obtain ⟨p, q, hA0, hV, rfl, _, _⟩ := hW
  have hA : DataW.TrodAll enc Try.prog W 0 (fun _ => true) true Try.f3.params.toList args.toList ds p := hA0
  rw [Try.params3] at hA hval hsz
  obtain ⟨v0, d0, rfl, rfl, h0⟩ := trodAll_one hA
  obtain ⟨rfl, rfl⟩ := trodVars_none hV
  obtain ⟨a0, len0, cap0, rfl⟩ := okWide_slice Try.underlying22 (hval 0 22 v0 rfl rfl)
  have k0 := h0
  have lt0 : ∀ x ∈ p, x.block < W.heap.size := by obtain ⟨m, hm⟩ := k0; exact DataW.trod_lt m _ _ _ hm
  have b0 := ops_bulk h0
  have hb : Rows.uptoBulkAll ([d0] ++ []) ≤ 1048576 := of_decide_eq_true hcond
  have hb2 : Rows.uptoBulk d0 ≤ 1048576 := by simp only [List.append_nil, Rows.uptoBulkAll] at hb; omega
  obtain ⟨fuel0, hf0⟩ := h0
  clear hA0 hval0
  have hall := List.all_eq_true.1 hsz
  obtain ⟨u0, A, e0, hA1, hfit0⟩ := ops_of_trod_b hf0 (fun n hn => by simpa using hall n (DataW.weights_mem_each (j := 0) rfl rfl n hn)) 1048576 hb2
  have e0' : Value.slice a0 len0 cap0 = u0 := by simpa [Value.cells] using e0
  subst e0'
  have n0 : A.length = len0 := by obtain ⟨_, _, h, _⟩ := hA1; injection h with _ h _; exact h.symm
  have hks : ∀ i, (A.getD i default).key.size ≤ maxLen := fun i => by
    by_cases hi : i < A.length
    · rw [show A.getD i default = A[i] by simp [List.getD, List.getElem?_eq_getElem hi]]
      exact (hfit0 _ (List.getElem_mem hi)).1.1
    · rw [show A.getD i default = default by simp [List.getD, List.getElem?_eq_none (Nat.le_of_not_lt hi)]]
      decide
  refine (checks_walk _ A W hA1 (fun o ho => opKey o (hfit0 o ho).1.1) (fun i => opKey _ (hks i)) (by omega) (fun o ho => (hfit0 o ho).2)).mono fun e W' ⟨he, hn⟩ => ?_
  subst he
  exact ⟨_, rfl, _, _, _, [], _, [], hW', trodAll_mk1 (shut_bool Try.underlying4 true), trodAll_mk1 (Below.trod Try.laidOut (by kernel_rfl) (of_decide_eq_true (by kernel_rfl)) k0 hn lt0), rfl, hn.frame _, fun h => by cases h⟩

/-- Whatever operations it is handed, up to the bound: the law answers true, and they read as they did. -/
theorem innerChecks_upto : Rows.InnerChecksUptoSaid :=
  OpenClaim.holds_of_cond 3 Try.f3 rfl rfl rfl rfl rfl rfl rfl ⟨rfl, rfl, rfl, rfl, rfl⟩ rfl rfl rfl rfl rfl (by kernel_rfl) Try.func3 (by kernel_rfl)
    (of_decide_eq_true (by kernel_rfl)) (by unfold Func.isWrapper; first | (rw [if_pos (by decide +kernel)]; kernel_rfl) | (rw [if_neg (by decide +kernel)]; exact ⟨rfl, rfl⟩))
    (fun os started H enc _ F => checks_lifted os started H enc F)

#print axioms innerChecks_upto
end Go.Proofs.Ytadlnkaphkbfdaa
