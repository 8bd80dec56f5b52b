/-
  For every slice of transactions and every order whose reading holds together at most 1048576 values and letters: search.Right answers as the document's Right does, and both stay as they were. The condition: that bound (what is known of a key is as much as all that was written to it, and slices may share their memory, so that no machine bears them near its reach).
-/
import Derived.Test.YtgfnjebnfhgimaaRows
import Derived.Test.YtgfnjebnfhgimaaSh
import Derived.Test.YtgfnjebnfhgimaaTE
import Derived.ProofKit
import Derived.SizedLaws
import Derived.OpenShut
import Derived.ChangeMaps5
import Derived.JoinedCond
import Derived.Deep.CondSized
import Derived.Deep.Slices
namespace Go.Proofs.Ytgfnjebnfhgimaa
set_option linter.unusedVariables false
set_option linter.unusedSimpArgs false
open Go.ChangeShapes Go.WideShapes Go.ChangeAt Go.RowKit Go.ChangeMaps

theorem Try.ownS : ownKnob Try.prog.godebug = none := by kernel_rfl

set_option maxHeartbeats 800000 in
set_option maxRecDepth 100000 in
theorem sright_lifted (os : Os) (started : os.Started) (H : Type) (enc : TypeId × Value → H) (F : Stop.Interp) :
    ReturnsInHanded {} Try.checked os 3 .any ((Rows.OpenSpec.upto Rows.searchRightSpec).pre6 enc Try.prog Try.f3 Rows.searchRightUptoRow.domain false) (((Rows.OpenSpec.upto Rows.searchRightSpec).at F).post enc Try.prog Try.f3 false true false false) := by
  refine returnsInHanded_of_cond_sized (C := Try.checked) (s := Rows.OpenSpec.upto Rows.searchRightSpec) (k := Rows.uptoSmall) rfl Try.ownS started (by kernel_rfl) Try.func3
    (OpenSpec.witness (enc := enc) (C := Try.checked) (s := Rows.OpenSpec.upto Rows.searchRightSpec) (k := Rows.uptoSmall) rfl false ⟨#[], #[.slice none 0 0, .slice none 0 0], []⟩ 8 (by kernel_rfl) (by kernel_rfl) (by kernel_rfl)
      (x := ([.nil, .nil], [], [])) (by kernel_rfl) rfl (by kernel_rfl)) ?_
  intro W base args ds gs before hval0 hW _ hcond hsz0 _
  have hsz : (DataW.weightsEach Try.prog (Try.f3.params.toList ++ Rows.searchRightSpec.plain.varTypes Try.prog) (ds ++ gs)).all (· ≤ reachBytes) = true := hsz0
  clear hsz0
  have hval : ∀ (j : Nat) t v, Try.f3.params[j]? = some t → args[j]? = some v → Value.okWide Try.prog W .any base t v := hval0
  have hW' := hW
  obtain ⟨p, q, hA0, hV, rfl, _, _⟩ := hW
  have hA : DataW.TrodAll enc Try.prog W 0 (fun _ => true) true Try.f3.params.toList args.toList ds p := hA0
  rw [Try.params3] at hA hval hsz
  obtain ⟨v0, vs0, d0, ds0, p0, q0, hargs, rfl, rfl, h0, r0⟩ := trodAll_cons hA
  obtain ⟨v1, vs1, d1, ds1, p1, q1, rfl, rfl, rfl, h1, r1⟩ := trodAll_cons r0
  obtain ⟨rfl, rfl, rfl⟩ := trodAll_nil r1
  obtain rfl : args = #[v0, v1] := by cases args; simp_all
  obtain ⟨rfl, rfl⟩ := trodVars_none hV
  obtain ⟨a0, len0, cap0, rfl⟩ := okWide_slice Try.underlying22 (hval 0 22 v0 rfl rfl)
  obtain ⟨a1, len1, cap1, rfl⟩ := okWide_slice Try.underlying23 (hval 1 23 v1 rfl rfl)
  have k0 := h0
  have k1 := h1
  have lt0 : ∀ x ∈ p0, x.block < W.heap.size := by obtain ⟨m, hm⟩ := k0; exact DataW.trod_lt m _ _ _ hm
  have lt1 : ∀ x ∈ p1, x.block < W.heap.size := by obtain ⟨m, hm⟩ := k1; exact DataW.trod_lt m _ _ _ hm
  have hb : Rows.uptoBulkAll ([d0, d1] ++ []) ≤ 1048576 := of_decide_eq_true hcond
  obtain ⟨fuel0, hf0⟩ := h0
  obtain ⟨fuel1, hf1⟩ := h1
  clear hA0 hval0
  have hall := List.all_eq_true.1 hsz
  obtain ⟨u0, A, e0, hA1, hfit, hsum⟩ := Tx.txns_of_trod hf0 (fun n hn => by simpa using hall n (DataW.weights_mem_each (j := 0) rfl rfl n hn))
  have e0' : Value.slice a0 len0 cap0 = u0 := by simpa [Value.cells] using e0
  subst e0'
  obtain ⟨u1, O, e1, hO1⟩ := Tx.ints_of_trod hf1 (fun n hn => by simpa using hall n (DataW.weights_mem_each (j := 1) rfl rfl n hn))
  have e1' : Value.slice a1 len1 cap1 = u1 := by simpa [Value.cells] using e1
  subst e1'
  have hb2 : Rows.uptoBulk d0 ≤ 1048576 := by
    simp only [List.append_nil, Rows.uptoBulkAll] at hb
    omega
  have hsum2 : (A.map (fun t : Tx.MTxn => t.ops.length + 5)).sum ≤ Rows.uptoBulk d0 := hsum
  obtain ⟨m1, m2⟩ := Tx.sum_most A
  refine (sright_walk W _ _ A O hA1 hO1 (by omega) (fun t ht => by have := m2 t ht; omega) (fun t ht o ho => (hfit t ht o ho).1)).mono fun e W' ⟨he, hn⟩ => ?_
  subst he
  exact ⟨_, rfl, _, _, _, [], _, [], hW', trodAll_mk1 (shut_bool Try.underlying4 true), (trodAll_cons_mk (Below.trod Try.laidOut (by kernel_rfl) (of_decide_eq_true (by kernel_rfl)) k0 hn lt0) (trodAll_cons_mk (Below.trod Try.laidOut (by kernel_rfl) (of_decide_eq_true (by kernel_rfl)) k1 hn lt1) trodAll_mk0)), rfl, hn.frame _, fun h => by cases h⟩

/-- Whatever it is handed, up to the bound: the law answers true, and what it was handed reads as it did. -/
theorem searchRight_upto : Rows.SearchRightUptoSaid :=
  OpenClaim.holds_of_cond 3 Try.f3 rfl rfl rfl rfl rfl rfl rfl ⟨rfl, rfl, rfl, rfl, rfl⟩ rfl rfl rfl rfl rfl (by kernel_rfl) Try.func3 (by kernel_rfl)
    (of_decide_eq_true (by kernel_rfl)) (by unfold Func.isWrapper; first | (rw [if_pos (by decide +kernel)]; kernel_rfl) | (rw [if_neg (by decide +kernel)]; exact ⟨rfl, rfl⟩))
    (fun os started H enc _ F => sright_lifted os started H enc F)

#print axioms searchRight_upto
end Go.Proofs.Ytgfnjebnfhgimaa
