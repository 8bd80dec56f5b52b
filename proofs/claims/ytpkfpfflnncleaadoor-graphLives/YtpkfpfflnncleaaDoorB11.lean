/-
  A set filled with numbers; two equal lists of numbers.
-/
import Derived.Test.YtpkfpfflnncleaaDoorB10
namespace Go.Proofs.YtpkfpfflnncleaaDoor
set_option linter.unusedVariables false
set_option linter.unusedSimpArgs false
open Go.RowKit

/-- Some of the numbers, as it is put in, is k. -/
def hits (N : Nat) (zs : List Int) (k : Nat) : Bool := zs.any fun z => (IntKind.u64.wrap z).tmod N == (k : Int)
theorem hits_snoc (N : Nat) (zs : List Int) (z : Int) (M k : Nat) (h : (IntKind.u64.wrap z).tmod N = (M : Int)) : hits N (zs ++ [z]) k = (k == M || hits N zs k) := by
  unfold hits
  rw [List.any_append]
  simp only [List.any_cons, List.any_nil, Bool.or_false]
  rw [h, Bool.or_comm]
  congr 1
  rw [Bool.eq_iff_iff]
  simp
  omega
theorem take_snoc (zs : List Int) (k : Nat) (h : k < zs.length) : zs.take (k + 1) = zs.take k ++ [zs.getD k 0] := by
  rw [List.take_succ_eq_append_getElem h, List.getD_eq_getElem?_getD, List.getElem?_eq_getElem h]
  rfl

set_option maxHeartbeats 2000000 in
theorem filled_is (N : Nat) (ao : Option Addr) (cp : Nat) (zs : List Int) (w : World) (hz : ArgIn w ao zs) (hl : zs.length ≤ maxLen) (hN1 : 1 ≤ N) (hN2 : N ≤ 4096) :
    Calls Tryd.prog 31 #[.int .i64 N, .slice ao zs.length cp] w fun e w' => e = .returned (.pointer (some ⟨w.heap.size + 1, 0, none⟩)) ∧ Is w' (w.heap.size + 1) N w.heap.size (hits N zs) ∧ Below w.heap.size w w' ∧ w'.heap.size = w.heap.size + 2 := by
  unfold maxLen at hl
  have HZ := hid hz
  clear hz
  have hNi : (N : Int) ≤ 4096 := by omega
  have hNi1 : (1 : Int) ≤ N := by omega
  have hw : IntKind.u64.wrap (N : Int) = (N : Int) := wrap_nat N (by omega)
  have hlen : (zs.length : Int) ≤ 9223372036854775807 := by omega
  go_enter Tryd.func31, Tryd.ntmps31
  go_wp2_with fail
  go_at_call 8
  refine (new_is N (by omega) w).mono ?_
  rintro e w1 ⟨rfl, s1, b1, z1⟩
  have S1 := hid s1
  have B1 := hid b1
  have Z1 := hid z1
  clear s1 b1 z1
  go_wp2_with fail
  go_loopg [8, 18] zs.length (fun g _ i wr => ∃ k : Nat, k ≤ zs.length ∧ zs.length - k ≤ g ∧ i = .int .i64 k ∧ Aside (Is wr (w.heap.size + 1) N w.heap.size (hits N (zs.take k))) ∧ Aside (Below w.heap.size w wr) ∧ Aside (wr.heap.size = w.heap.size + 2))
  case atStart => exact ⟨0, Nat.zero_le _, by omega, rfl, S1.out.congr (fun k => by simp [hits]), B1.out, Z1.out⟩
  case round =>
    obtain ⟨k, hk, hg, rfl, SX, BX, ZX⟩ := hrel
    by_cases hlt : k < zs.length
    · have hlti : (k : Int) < zs.length := by omega
      obtain ⟨bz, oz, rfl, hc⟩ := HZ.out.later BX.out k hlt
      have HS := hid (take_snoc zs k hlt)
      generalize zs.getD k 0 = z at *
      obtain ⟨M, hM, hMz⟩ := u64_tmod z N (by omega) (by omega)
      have hMi : (M : Int) ≤ 4096 := by omega
      have HH := hid (fun j => hits_snoc N (zs.take k) z M j hMz)
      go_wp2_with fail
      go_at_call 10
      refine (add_is _ _ _ _ M _ SX.out hM).mono ?_
      rintro e w2 ⟨rfl, s2, b2, z2⟩
      have B2 : Hid (Below w.heap.size w w2) := BX.out.trans (b2.below (Nat.le_refl _) BX.out.size)
      have S2 : Hid (Is w2 (w.heap.size + 1) N w.heap.size (hits N (zs.take (k + 1)))) := s2.congr (fun j => by rw [HS.out, HH.out])
      have Z2 : Hid (w2.heap.size = w.heap.size + 2) := z2.trans ZX.out
      clear s2 b2 z2
      go_wp2_with fail
      go_roundg (zs.length - (k + 1))
      · exact ⟨k + 1, by omega, by omega, by go_num, S2.out, B2.out, Z2.out⟩
      · omega
    · have hlti : ¬ (k : Int) < zs.length := by omega
      go_wp2_with fail
      go_ret
      have e : zs.take k = zs := List.take_of_length_le (by omega)
      have S := SX.out
      rw [e] at S
      exact ⟨rfl, S, BX.out, ZX.out⟩

theorem Ints.arg {B : Nat} {w : World} {v : Value} {l : List Nat} (h : Ints B w v l) : ∃ ao c, v = .slice ao (l.map fun x : Nat => (x : Int)).length c ∧ ArgIn w ao (l.map fun x : Nat => (x : Int)) := by
  rcases h.2 with ⟨hv, hn⟩ | ⟨g, cap, cur, hv, hB, hg, hnc, hm, hs, ht⟩
  · refine ⟨none, 0, by rw [hv, List.length_map, hn], fun j hj => ?_⟩
    rw [List.length_map] at hj
    omega
  · refine ⟨_, _, by rw [hv, List.length_map], fun j hj => ⟨g, 0, rfl, ?_⟩⟩
    rw [List.length_map] at hj
    have h1 : (intsV l)[j]? = some (.int .i64 ((l.map fun x : Nat => (x : Int)).getD j 0)) := by
      unfold intsV
      simp [hj]
    rw [← ht, List.getElem?_take] at h1
    split at h1
    · rw [Nat.zero_add, Lib.cell_of_heap hg, ← h1]
      simp
    · cases h1

set_option maxHeartbeats 2000000 in
theorem equal_same (a1 a2 : Option Addr) (c1 c2 : Nat) (l : List Int) (w : World) (h1 : ArgIn w a1 l) (h2 : ArgIn w a2 l) (hl : l.length ≤ maxLen) :
    Calls Tryd.prog 22 #[.slice a1 l.length c1, .slice a2 l.length c2] w fun e w' => e = .returned (.bool true) ∧ ∃ q, w' = w.drewN q := by
  unfold maxLen at hl
  have H1 := hid h1
  have H2 := hid h2
  clear h1 h2
  have hlen : (l.length : Int) ≤ 9223372036854775807 := by omega
  have hq : ((l.length : Int) == (l.length : Int)) = true := by simp
  go_enter Tryd.func22, Tryd.ntmps22
  go_wp2_with fail
  go_loopg [5, 13] l.length (fun g _ i wr => ∃ k : Nat, k ≤ l.length ∧ l.length - k ≤ g ∧ i = .int .i64 k ∧ Aside (∃ q, wr = w.drewN q))
  case atStart => exact ⟨0, Nat.zero_le _, by omega, rfl, 0, rfl⟩
  case round =>
    obtain ⟨k, hk, hg, rfl, QX⟩ := hrel
    obtain ⟨q, rfl⟩ := QX.out
    by_cases hlt : k < l.length
    · have hlti : (k : Int) < l.length := by omega
      obtain ⟨b1, o1, rfl, d1⟩ := H1.out k hlt
      obtain ⟨b2, o2, rfl, d2⟩ := H2.out k hlt
      have d1' := (cell_drewN w q _).trans d1
      have d2' := (cell_drewN w q _).trans d2
      generalize l.getD k 0 = z at *
      have hzz : (z == z) = true := by simp
      go_wp2_with fail
      go_quiet (fail)
      go_wp2_with fail
      go_roundg (l.length - (k + 1))
      · exact ⟨k + 1, by omega, by omega, by go_num, _, rfl⟩
      · omega
    · have hlti : ¬ (k : Int) < l.length := by omega
      go_wp2_with fail
      go_ret
      exact ⟨rfl, _, rfl⟩
end Go.Proofs.YtpkfpfflnncleaaDoor
