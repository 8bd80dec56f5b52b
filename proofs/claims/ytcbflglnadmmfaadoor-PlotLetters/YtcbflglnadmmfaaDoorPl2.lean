/-
  Spiral: its places, in a slice of its own.
-/
import Derived.Test.YtcbflglnadmmfaaDoorPl1
namespace Go.Proofs.YtcbflglnadmmfaaDoor
set_option linter.unusedVariables false
set_option linter.unusedSimpArgs false
open Go.RowKit

/-- A place, as a number in memory. -/
def cV (k : Nat) : Value := .complex .f64 (spA k).ax (spA k).ay
/-- The first places. -/
def cVs (m : Nat) : List Value := (List.range m).map cV
theorem cVs_len (m : Nat) : (cVs m).length = m := by simp [cVs]
theorem cVs_succ (m : Nat) : cVs (m + 1) = cVs m ++ [cV m] := by simp [cVs, List.range_succ]
theorem cVs_at (m k : Nat) (hk : k < m) : (cVs m)[k]? = some (cV k) := by simp [cVs, hk]
/-- A slice of one's own with the first places. -/
def CRow (B : Nat) (w : World) (v : Value) (m : Nat) : Prop := w.ownsRow B 33 1 v m (cVs m)
/-- How many places there are. -/
def spM (n : Int) : Nat := (min n 100).toNat

set_option maxHeartbeats 4000000 in
set_option maxRecDepth 100000 in
theorem spiral_is (w : World) :
    Calls Tryd.prog 11 #[] w fun e w' => ∃ ba bs bl bt, e = .returned (.func (.func 21) #[] #[.pointer (some ⟨ba, 0, none⟩), .pointer (some ⟨bs, 0, none⟩), .pointer (some ⟨bl, 0, none⟩), .pointer (some ⟨bt, 0, none⟩)]) ∧ Wk w.heap.size w' ba bs bl bt 0 ∧ Below w.heap.size w w' := by
  have hst := store_c Tryd.prog
  go_enter Tryd.func11, Tryd.ntmps11
  go_wp2_with fail
  go_ret
  refine ⟨w.heap.size, w.heap.size + 1, w.heap.size + 1 + 1 + 1, w.heap.size + 1 + 1, rfl, ⟨?_, ?_, ?_, ?_, by omega, by omega⟩, ?_⟩
  · rw [alloc_at, if_neg (by simp only [alloc_size]; omega), alloc_at, if_neg (by simp only [alloc_size]; omega), alloc_at, if_neg (by simp only [alloc_size]; omega), alloc_at, if_pos rfl]; rfl
  · rw [alloc_at, if_neg (by simp only [alloc_size]; omega), alloc_at, if_neg (by simp only [alloc_size]; omega), alloc_at, if_pos (by simp only [alloc_size])]; rfl
  · rw [alloc_at, if_pos (by simp only [alloc_size])]; rfl
  · rw [alloc_at, if_neg (by simp only [alloc_size]; omega), alloc_at, if_pos (by simp only [alloc_size])]; rfl
  · exact ((((Below.refl _ _).alloc (Nat.le_refl _) _).alloc (by simp only [alloc_size]; omega) _).alloc (by simp only [alloc_size]; omega) _).alloc (by simp only [alloc_size]; omega) _

theorem Tryd.infoC : (Tryd.prog.info? 33).map (fun i => (i.zero, i.size, i.bytes)) = some (some (.complex .f64 0 0), 1, 16) := by kernel_rfl

set_option maxHeartbeats 8000000 in
set_option maxRecDepth 100000 in
theorem pSpiral_is (n : Int) (w : World) :
    Calls Tryd.prog 5 #[.int .i64 n] w fun e w' => ∃ v, e = .returned v ∧ CRow w.heap.size w' v (spM n) ∧ Below w.heap.size w w' := by
  obtain ⟨i0, hi0, hz0, hz1, hz2⟩ := info_parts Tryd.infoC
  have HI0 := hid hi0
  have HZ0 := hid hz0
  have HZ1 := hid hz1
  have HZ2 := hid hz2
  clear hi0 hz0 hz1 hz2
  obtain ⟨N, hN⟩ : ∃ N : Int, N = min n 100 := ⟨_, rfl⟩
  have hmi : min n 100 = N := hN.symm
  have HM : Hid (spM n = N.toNat) := by show _ = _; unfold spM; rw [hmi]
  have hN100 : N ≤ 100 := by omega
  obtain ⟨m, hm⟩ : ∃ m, m = N.toNat := ⟨_, rfl⟩
  have hm100 : m ≤ 100 := by omega
  have hmN : ∀ k : Nat, (k : Int) < N ↔ k < m := by omega
  have HMN := hid hmN
  clear hmN hN
  go_enter Tryd.func5, Tryd.ntmps5
  go_wp2_with (go_at_call 11; refine (spiral_is _).mono ?_; rintro e w0 ⟨ba, bs, bl, bt, rfl, hw0, hb0⟩; have W0 := hid hw0; have B0 := hid hb0; clear hw0 hb0)
  have s0 := B0.out.size
  have L0 := W0.out.lt
  have L0' := hid L0
  clear L0
  go_loopg [3, 8] m (fun gg out i wr => ∃ k : Nat, k ≤ m ∧ m - k ≤ gg ∧ i = .int .i64 k ∧ Aside (Wk w.heap.size wr ba bs bl bt k) ∧ Aside (CRow w0.heap.size wr out k) ∧ Aside (Below w.heap.size w wr ∧ w0.heap.size ≤ wr.heap.size))
  case atStart => exact ⟨0, Nat.zero_le _, by omega, rfl, W0.out, World.ownsRow_nil _ _ _ _, (⟨B0.out, Nat.le_refl _⟩ : _ ∧ _)⟩
  case round =>
    obtain ⟨k, hk, hgk, rfl, WK, RK, BK⟩ := hrel
    by_cases hlt : k < m
    · have hlti : (k : Int) < N := (HMN.out k).2 hlt
      obtain ⟨oa, oc, hov⟩ := own_slice RK.out
      subst hov
      have sK := BK.out.2
      go_wp2_with first
        | (go_at_call 21; refine (next_is WK.out (by omega)).mono ?_; rintro e w1 ⟨rfl, hw1, hb1⟩; have W1 := hid hw1; have U1 := hid hb1; have z1 : Hid (w1.heap.size = wr.heap.size) := hb1.size; have z2 : wr.heap.size ≤ w1.heap.size := Nat.le_of_eq hb1.size.symm; clear hw1 hb1; have R1 : Hid (CRow w0.heap.size w1 (.slice oa k oc) k) := own_same RK.out (fun g hg => by have h1 := (own_block RK.out hg).1; have h2 := L0'.out; exact U1.out.block g (by omega) (by omega) (by omega) (by omega)))
        | (at_builtin; refine wpList_append_lies _ rfl _ _ 23 rfl w0.heap.size 33 i0 _ 1 16 Tryd.underlying23 HI0.out HZ0.out HZ1.out HZ2.out rfl (by decide) (.slice oa k oc) k (cVs k) rfl (R1.out.alloc _) ⟨w1.heap.size, 0, none⟩ 1 1 [cV k] rfl rfl (World.news_of_block (cs := #[cV k]) (t := 33) (fr := (0, 0)) (by rw [alloc_at, if_pos rfl]; rfl)) (by simp [Value.oneCell', cV]) (by decide) (by unfold maxLen; omega) (by omega) (by rw [alloc_size]; omega) (w1.heap.size + 1) (by simp) ?_; intro g8 cap8 w8 hown hgrow hat hglt; have O8 := hid hown; have B8 := hid (push_b (by omega) (Below.refl w0.heap.size w1) R1.out hgrow); have s8 : w1.heap.size ≤ w8.heap.size := B8.out.size; clear hown hgrow hat hglt)
      go_roundg (m - (k + 1))
      case measure => omega
      case rel =>
        refine ⟨k + 1, by omega, by omega, by go_num, ?_, ?_, ?_⟩
        · exact (W1.out : Wk _ _ _ _ _ _ _).same (fun b hb => B8.out.block b (by have h2 := L0'.out; omega))
        · show CRow _ _ _ _
          unfold CRow
          rw [cVs_succ]
          exact O8.out
        · exact (⟨(BK.out.1.trans ((U1.out.below W0.out.hi).mono (Nat.le_refl _))).trans (B8.out.mono s0), Nat.le_trans (Nat.le_trans sK z2) s8⟩ : _ ∧ _)
    · have hlti : ¬ (k : Int) < N := fun c => hlt ((HMN.out k).1 c)
      go_wp2_with fail
      go_ret
      have e : k = m := by omega
      refine ⟨_, rfl, ?_, BK.out.1⟩
      rw [HM.out, ← hm, ← e]
      exact own_mono RK.out s0
end Go.Proofs.YtcbflglnadmmfaaDoor
