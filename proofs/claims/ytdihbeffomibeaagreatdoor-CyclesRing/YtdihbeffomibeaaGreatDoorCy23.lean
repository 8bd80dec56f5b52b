/-
  For the law CyclesRing: a number by a remainder, a list cut in two.
-/
import Derived.Test.YtdihbeffomibeaaGreatDoorCy22
namespace Go.Proofs.YtdihbeffomibeaaGreatDoor
set_option linter.unusedVariables false
set_option linter.unusedSimpArgs false
open Go.RowKit Go.Lib Go.Maps

theorem u64_mod (n : Int) (m : Nat) (hm : 0 < m) (hm2 : m ≤ 4294967296) : ∃ N : Nat, N < m ∧ wrap64 ((IntKind.u64.wrap n).tmod m) = N := by
  rw [IntKind.wrap_u64]
  have h0 : 0 ≤ n % 18446744073709551616 := Int.emod_nonneg _ (by decide)
  rw [Int.tmod_eq_emod_of_nonneg h0]
  have h1 := Int.emod_nonneg (n % 18446744073709551616) (show (m : Int) ≠ 0 by omega)
  have h2 := Int.emod_lt_of_pos (n % 18446744073709551616) (show (0 : Int) < m by omega)
  refine ⟨(n % 18446744073709551616 % m).toNat, by omega, ?_⟩
  unfold wrap64
  omega
theorem ring_wrap {n i : Nat} (h : i < n) (hn : n ≤ 31) : wrap64 ((i : Int) + 1) = (i : Int) + 1 := by unfold wrap64; omega
theorem ring_wrap2 {n i : Nat} (h : i < n) (hn : n ≤ 31) : IntKind.i64.wrap ((i : Int) + 1) = (i : Int) + 1 := by rw [IntKind.wrap_i64]; omega
theorem ring_modU {n i : Nat} (h : i < n) (hn : n ≤ 31) : ((i : Int) + 1).tmod (n : Int) = ((nxt n i : Nat) : Int) := by
  have e : ((i : Int) + 1).tmod (n : Int) = (((i + 1) % n : Nat) : Int) := by
    rw [Int.tmod_eq_emod_of_nonneg (by omega), Int.natCast_emod, Int.natCast_add]
    rfl
  rw [e, nxt_mod h]
theorem rowsW_congr {f f2 : Nat → MW} {n : Nat} (h : ∀ j, j < n → f j = f2 j) : rowsW f n = rowsW f2 n := List.map_congr_left (fun j hj => by rw [h j (List.mem_range.1 hj)])
theorem slice_to (g o n c k : Nat) (hk : k ≤ c) (V : World) : (Instr.sliceAt 22 (.slice (some ⟨g, o, none⟩) n c) none (some (.int .i64 (k : Nat))) none).run Tryz.prog V = .ok (.slice (some ⟨g, o, none⟩) k c) V := by
  obtain ⟨i0, hi, hz0, hz1, hz2⟩ := info_parts Tryz.infoW
  have hk0 : (0 : Int) ≤ (k : Int) := by omega
  have hkc : (k : Int) ≤ (c : Int) := by omega
  simp [Instr.sliceAt, Instr.slice, run_underlying Tryz.underlying22, Instr.sliceBounds, run_sliceBound, go_sem, hi, hz1, hk0, hkc, Addr.add]
end Go.Proofs.YtdihbeffomibeaaGreatDoor
