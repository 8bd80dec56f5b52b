/-
  A set filled with numbers; two equal lists of numbers.
-/
import Derived.Test.YtgmneohngadpeaaGreatDoorB10
namespace Go.Proofs.YtgmneohngadpeaaGreatDoor
set_option linter.unusedVariables false
set_option linter.unusedSimpArgs false
open Go.RowKit

/-- Some of the numbers, as it is put in, is k. -/
def hits (N : Nat) (zs : List Int) (k : Nat) : Bool := zs.any fun z => (IntKind.u64.wrap z).tmod N == (k : Int)
theorem hits_snoc (N : Nat) (zs : List Int) (z : Int) (M k : Nat) (h : (IntKind.u64.wrap z).tmod N = (M : Int)) : hits N (zs ++ [z]) k = (k == M || hits N zs k) := by
  unfold hits
  rw [List.any_append]
  simp only [List.any_cons, List.any_nil, Bool.or_false]
  rw [h, Bool.or_comm]
  congr 1
  rw [Bool.eq_iff_iff]
  simp
  omega
theorem take_snoc (zs : List Int) (k : Nat) (h : k < zs.length) : zs.take (k + 1) = zs.take k ++ [zs.getD k 0] := by
  rw [List.take_succ_eq_append_getElem h, List.getD_eq_getElem?_getD, List.getElem?_eq_getElem h]
  rfl

theorem Ints.arg {B : Nat} {w : World} {v : Value} {l : List Nat} (h : Ints B w v l) : ∃ ao c, v = .slice ao (l.map fun x : Nat => (x : Int)).length c ∧ ArgIn w ao (l.map fun x : Nat => (x : Int)) := by
  rcases h.2 with ⟨hv, hn⟩ | ⟨g, cap, cur, hv, hB, hg, hnc, hm, hs, ht⟩
  · refine ⟨none, 0, by rw [hv, List.length_map, hn], fun j hj => ?_⟩
    rw [List.length_map] at hj
    omega
  · refine ⟨_, _, by rw [hv, List.length_map], fun j hj => ⟨g, 0, rfl, ?_⟩⟩
    rw [List.length_map] at hj
    have h1 : (intsV l)[j]? = some (.int .i64 ((l.map fun x : Nat => (x : Int)).getD j 0)) := by
      unfold intsV
      simp [hj]
    rw [← ht, List.getElem?_take] at h1
    split at h1
    · rw [Nat.zero_add, Lib.cell_of_heap hg, ← h1]
      simp
    · cases h1
end Go.Proofs.YtgmneohngadpeaaGreatDoor
