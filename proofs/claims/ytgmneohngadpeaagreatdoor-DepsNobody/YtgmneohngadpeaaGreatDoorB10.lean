/-
  The walk of the law BitsEdges.
-/
import Derived.Test.YtgmneohngadpeaaGreatDoorB9
namespace Go.Proofs.YtgmneohngadpeaaGreatDoor
set_option linter.unusedVariables false
set_option linter.unusedSimpArgs false
open Go.RowKit

/-- A slice of numbers that was handed in. -/
def ArgIn (w : World) (ao : Option Addr) (zs : List Int) : Prop :=
  ∀ j, j < zs.length → ∃ b off, ao = some ⟨b, off, none⟩ ∧ w.cell? ⟨b, off + j, none⟩ = some (.int .i64 (zs.getD j 0))
theorem ArgIn.later {w w' : World} {ao : Option Addr} {zs : List Int} (h : ArgIn w ao zs) (hb : Below w.heap.size w w') : ArgIn w' ao zs := fun j hj => by
  obtain ⟨b, off, e, hc⟩ := h j hj
  exact ⟨b, off, e, (hb.cell (p := ⟨b, off + j, none⟩) (World.block_lt_of_cell? _ _ hc)).trans hc⟩

theorem u64_tmod (n : Int) (m : Nat) (hm : 0 < m) (hm2 : m ≤ 4294967296) : ∃ N : Nat, N < m ∧ (IntKind.u64.wrap n).tmod m = N := by
  rw [IntKind.wrap_u64, tmod_of_emod]
  have h1 := Int.emod_nonneg (n % 18446744073709551616) (show (m : Int) ≠ 0 by omega)
  have h2 := Int.emod_lt_of_pos (n % 18446744073709551616) (show (0 : Int) < m by omega)
  exact ⟨(n % 18446744073709551616 % m).toNat, by omega, by omega⟩
theorem mod_one (n : Int) (m : Nat) (hm : 0 < m) (hm2 : m ≤ 4000) : ∃ N : Nat, 1 ≤ N ∧ N ≤ m ∧ wrap64 (1 + wrap64 ((IntKind.u64.wrap n).tmod m)) = N := by
  obtain ⟨N, h1, h2⟩ := u64_tmod n m hm (by omega)
  refine ⟨N + 1, by omega, by omega, ?_⟩
  rw [h2]
  unfold wrap64
  omega
theorem cnt_drop (f : Nat → Bool) (k n : Nat) (hk : k < n) : Pop.cnt (fun j => !(j == k) && f j) n + (f k).toNat = Pop.cnt f n := by
  induction n with
  | zero => omega
  | succ n ih =>
    show Pop.cnt _ n + (!(n == k) && f n).toNat + _ = Pop.cnt f n + (f n).toNat
    by_cases h : n = k
    · subst h
      have e : Pop.cnt (fun j => !(j == n) && f j) n = Pop.cnt f n := Pop.cnt_congr _ _ _ fun i hi => by
        have : (i == n) = false := by simp; omega
        simp [this]
      rw [e]
      simp
    · have h1 := ih (by omega)
      have : (n == k) = false := by simp [h]
      rw [this]
      simp
      omega
theorem cnt_all (n : Nat) : Pop.cnt (fun j => decide (j < n)) n = n := by
  have : ∀ m, m ≤ n → Pop.cnt (fun j => decide (j < n)) m = m := by
    intro m
    induction m with
    | zero => intro _; rfl
    | succ m ih =>
      intro h
      show Pop.cnt _ m + (decide (m < n)).toNat = m + 1
      rw [ih (by omega)]
      have : decide (m < n) = true := by simp; omega
      rw [this]
      rfl
  exact this n (Nat.le_refl _)
theorem Is.congr {w : World} {b n c : Nat} {f g : Nat → Bool} (h : Is w b n c f) (e : ∀ k, f k = g k) : Is w b n c g := by
  have : f = g := funext e
  rw [← this]
  exact h

theorem Ints.form {B : Nat} {w : World} {v : Value} {l : List Nat} (h : Ints B w v l) : ∃ ao c, v = .slice ao l.length c := by
  rcases h.2 with ⟨hv, hn⟩ | ⟨g, cap, cur, hv, _⟩
  · exact ⟨none, 0, by rw [hv, hn]⟩
  · exact ⟨_, _, hv⟩
end Go.Proofs.YtgmneohngadpeaaGreatDoor
