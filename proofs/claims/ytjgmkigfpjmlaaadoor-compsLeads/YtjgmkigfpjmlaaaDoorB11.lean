/-
  A set filled with numbers; two equal lists of numbers.
-/
import Derived.Test.YtjgmkigfpjmlaaaDoorB10
namespace Go.Proofs.YtjgmkigfpjmlaaaDoor
set_option linter.unusedVariables false
set_option linter.unusedSimpArgs false
open Go.RowKit

/-- Some of the numbers, as it is put in, is k. -/
def hits (N : Nat) (zs : List Int) (k : Nat) : Bool := zs.any fun z => (IntKind.u64.wrap z).tmod N == (k : Int)
theorem hits_snoc (N : Nat) (zs : List Int) (z : Int) (M k : Nat) (h : (IntKind.u64.wrap z).tmod N = (M : Int)) : hits N (zs ++ [z]) k = (k == M || hits N zs k) := by
  unfold hits
  rw [List.any_append]
  simp only [List.any_cons, List.any_nil, Bool.or_false]
  rw [h, Bool.or_comm]
  congr 1
  rw [Bool.eq_iff_iff]
  simp
  omega
theorem take_snoc (zs : List Int) (k : Nat) (h : k < zs.length) : zs.take (k + 1) = zs.take k ++ [zs.getD k 0] := by
  rw [List.take_succ_eq_append_getElem h, List.getD_eq_getElem?_getD, List.getElem?_eq_getElem h]
  rfl

theorem Ints.arg {B : Nat} {w : World} {v : Value} {l : List Nat} (h : Ints B w v l) : ∃ ao c, v = .slice ao (l.map fun x : Nat => (x : Int)).length c ∧ ArgIn w ao (l.map fun x : Nat => (x : Int)) := by
  rcases h.2 with ⟨hv, hn⟩ | ⟨g, cap, cur, hv, hB, hg, hnc, hm, hs, ht⟩
  · refine ⟨none, 0, by rw [hv, List.length_map, hn], fun j hj => ?_⟩
    rw [List.length_map] at hj
    omega
  · refine ⟨_, _, by rw [hv, List.length_map], fun j hj => ⟨g, 0, rfl, ?_⟩⟩
    rw [List.length_map] at hj
    have h1 : (intsV l)[j]? = some (.int .i64 ((l.map fun x : Nat => (x : Int)).getD j 0)) := by
      unfold intsV
      simp [hj]
    rw [← ht, List.getElem?_take] at h1
    split at h1
    · rw [Nat.zero_add, Lib.cell_of_heap hg, ← h1]
      simp
    · cases h1

set_option maxHeartbeats 2000000 in
theorem equal_same (a1 a2 : Option Addr) (c1 c2 : Nat) (l : List Int) (w : World) (h1 : ArgIn w a1 l) (h2 : ArgIn w a2 l) (hl : l.length ≤ maxLen) :
    Calls Tryd.prog 13 #[.slice a1 l.length c1, .slice a2 l.length c2] w fun e w' => e = .returned (.bool true) ∧ ∃ q, w' = w.drewN q := by
  unfold maxLen at hl
  have H1 := hid h1
  have H2 := hid h2
  clear h1 h2
  have hlen : (l.length : Int) ≤ 9223372036854775807 := by omega
  have hq : ((l.length : Int) == (l.length : Int)) = true := by simp
  go_enter Tryd.func13, Tryd.ntmps13
  go_wp2_with fail
  go_loopg [5, 13] l.length (fun g _ i wr => ∃ k : Nat, k ≤ l.length ∧ l.length - k ≤ g ∧ i = .int .i64 k ∧ Aside (∃ q, wr = w.drewN q))
  case atStart => exact ⟨0, Nat.zero_le _, by omega, rfl, 0, rfl⟩
  case round =>
    obtain ⟨k, hk, hg, rfl, QX⟩ := hrel
    obtain ⟨q, rfl⟩ := QX.out
    by_cases hlt : k < l.length
    · have hlti : (k : Int) < l.length := by omega
      obtain ⟨b1, o1, rfl, d1⟩ := H1.out k hlt
      obtain ⟨b2, o2, rfl, d2⟩ := H2.out k hlt
      have d1' := (cell_drewN w q _).trans d1
      have d2' := (cell_drewN w q _).trans d2
      generalize l.getD k 0 = z at *
      have hzz : (z == z) = true := by simp
      go_wp2_with fail
      go_quiet (fail)
      go_wp2_with fail
      go_roundg (l.length - (k + 1))
      · exact ⟨k + 1, by omega, by omega, by go_num, _, rfl⟩
      · omega
    · have hlti : ¬ (k : Int) < l.length := by omega
      go_wp2_with fail
      go_ret
      exact ⟨rfl, _, rfl⟩
end Go.Proofs.YtjgmkigfpjmlaaaDoor
