/-
  The document's Graph of dependencies.
-/
import Derived.Test.YtdihbeffomibeaaGreatDoorY3
import Derived.Test.YtdihbeffomibeaaGreatDoorY5
namespace Go.Proofs.YtdihbeffomibeaaGreatDoor
set_option linter.unusedVariables false
set_option linter.unusedSimpArgs false
open Go.RowKit

/-- What the document's Graph hands back. -/
def RGraphPost (n len : Nat) (f : Nat → MW) (w : World) (e : Ending) (w' : World) : Prop :=
  ((∃ why, Refused n len f why ∧ e = .returned (.tuple #[.pointer none, .int .i64 why])) ∨ ((∀ i, i < len → whyW n (f i) = 0) ∧ ∃ b v rw', e = .returned (.tuple #[.pointer (some ⟨b, 0, none⟩), .int .i64 0]) ∧ RefG w' b n v rw' (gL f len) ∧ w.heap.size ≤ b ∧ ∀ i, i < n → w.heap.size ≤ rw' i)) ∧ Below w.heap.size w w'

set_option maxHeartbeats 4000000 in
/-- the document's Graph of too many nodes, or of fewer than none. -/
theorem rdgraph_no (n : Int) (hn : n < 0 ∨ 300 < n) (v : Value) (w : World) : Calls Tryz.prog 14 #[.int .i64 n, v] w fun e w' => e = .returned (.tuple #[.pointer none, .int .i64 1]) ∧ Below w.heap.size w w' := by
  have N1 := hid (rgnew_no n hn)
  clear hn
  go_enter Tryz.func14, Tryz.ntmps14
  go_wp2_with fail
  go_at_call 31
  refine (N1.out _).mono ?_
  rintro e w1 ⟨rfl, rfl⟩
  go_wp2_with fail
  refine bodyPost_ret (v := .tuple #[.pointer none, .int .i64 1]) (by simp [results, Tryz.results14, go_sem]) rfl ⟨rfl, Below.refl _ _⟩

set_option maxHeartbeats 8000000 in
set_option maxRecDepth 100000 in
/-- the document's Graph. -/
theorem rdgraph_is (n : Nat) (hn : n ≤ 300) (ao : Option Addr) (c len : Nat) (f : Nat → MW) (w : World) (hl : Lw w ao len f) (hlen : len ≤ 9223372036854775807) : Calls Tryz.prog 14 #[.int .i64 n, .slice ao len c] w fun e w' => RGraphPost n len f w e w' := by
  have N1 := hid (rgnew_ok n hn)
  have HZ := hid hl
  clear hl
  have hleni : (len : Int) ≤ 9223372036854775807 := by omega
  go_enter Tryz.func14, Tryz.ntmps14
  go_wp2_with fail
  go_at_call 31
  refine (N1.out _).mono ?_
  rintro e w1 ⟨rfl, ⟨v, rw', m1⟩, b1⟩
  have S2 : Hid (RefG w1 w.heap.size n v rw' (gL f 0)) := m1.graph hn
  have B1 := hid b1
  have LO2 : Hid (∀ i, i < n → w.heap.size ≤ rw' i) := fun i hi => m1.low.2 i hi
  clear m1 b1 N1
  obtain ⟨b, hb⟩ : ∃ b, w.heap.size = b := ⟨_, rfl⟩
  have LB : Hid (w.heap.size ≤ b) := Nat.le_of_eq hb
  have S3 : Hid (RefG w1 b n v rw' (gL f 0)) := by rw [← hb]; exact S2.out
  have hgoal : Value.pointer (some ⟨w.heap.size, 0, none⟩) = Value.pointer (some ⟨b, 0, none⟩) := by rw [hb]
  rw [hgoal]
  clear hb hgoal S2
  go_wp2_with fail
  go_loopg [9, 10, 21] len (fun g _ _ i wr => ∃ j : Nat, j ≤ len ∧ len - j ≤ g ∧ i = .int .i64 j ∧ Aside (RefG wr b n v rw' (gL f j)) ∧ Aside (Below w.heap.size w wr) ∧ Aside (∀ i, i < j → whyW n (f i) = 0))
  case atStart => exact ⟨0, Nat.zero_le _, by omega, rfl, S3.out, B1.out, fun i hi => absurd hi (Nat.not_lt_zero _)⟩
  case round =>
    clear S3 B1
    obtain ⟨j, hj, hg, rfl, GX, BX, OX⟩ := hrel
    by_cases hjl : j < len
    · have hjli : (j : Int) < len := by omega
      obtain ⟨bz, oz, rfl, -, k0, k1, k2, k3, k4, k5, k6, k7⟩ := (HZ.out.later BX.out).eight j hjl
      obtain ⟨X, hX⟩ : ∃ X, f j = X := ⟨_, rfl⟩
      have HX := hid hX
      rw [hX] at k0 k1 k2 k3 k4 k5 k6 k7
      clear hX
      obtain ⟨x, y, z, xk, xa, xb, xn, xc⟩ := X
      simp only [MW.src, MW.dst, MW.lab, MW.key, MW.va, MW.vb, MW.nl, MW.cond] at k0 k1 k2 k3 k4 k5 k6 k7
      have AL := hid (below_box wr (.cells #[.int .i64 x, .int .i64 y, .int .i64 z, .string xk, .int .i64 xa, .int .i64 xb, .bool xn, .bool xc] 25))
      have G2 := hid (GX.out.later AL.out)
      have B2 := hid (BX.out.trans (AL.out.mono BX.out.size))
      by_cases hw : whyW n (f j) = 0
      · have hw2 := hw
        rw [HX.out] at hw2
        obtain ⟨F, T, Xl, e1, e2, e3, hF, hT, hX1, hX2, hne⟩ := why_zero hw2
        simp only [MW.src, MW.dst, MW.lab] at e1 e2 e3
        subst e1 e2 e3
        have AD := hid (rgadd_ok b n v rw' (gL f j) F T Xl _ G2.out hF hT hX1 hX2 hne)
        have EL : Hid (addL (gL f j) F T Xl 4 = gL f (j + 1)) := by
          show _ = addL (gL f j) (f j).src.toNat (f j).dst.toNat (f j).lab.toNat 4
          rw [HX.out]
          rfl
        have HF := hid hF
        have HW := hid hw
        clear hw hw2 hF hT hX1 hX2 hne
        go_wp2_with fail
        go_at_call 32
        refine AD.out.mono ?_
        rintro e w5 ⟨rfl, s5, b5, z5⟩
        rw [EL.out] at s5
        have S5 := hid s5
        have B5 : Hid (Below w.heap.size w w5) := B2.out.trans (b5.below (LO2.out F HF.out) B2.out.size)
        have O5 : Hid (∀ i, i < j + 1 → whyW n (f i) = 0) := fun i hi => by
          by_cases e : i = j
          · rw [e]; exact HW.out
          · exact OX.out i (by omega)
        clear s5 b5 z5 AD EL k0 k1 k2 k3 k4 k5 k6 k7
        go_wp2_with fail
        go_roundg (len - (j + 1))
        case measure => omega
        case rel => exact ⟨j + 1, by omega, by omega, by go_num, S5.out, B5.out, O5.out⟩
      · have hw2 := hw
        rw [HX.out] at hw2
        have AD := hid (rgadd_no b n v rw' (gL f j) x y z _ G2.out hw2)
        have ER : Hid (Refused n len f (addWhy n x y z)) := ⟨j, hjl, OX.out, hw, by rw [HX.out]; rfl⟩
        have hw3 : ¬ addWhy n x y z = 0 := hw2
        have hw4 : (addWhy n x y z == 0) = false := by simp [hw3]
        clear hw hw2
        generalize addWhy n x y z = why at *
        go_wp2_with fail
        go_at_call 32
        refine AD.out.mono ?_
        rintro e w5 ⟨rfl, rfl⟩
        have PO : Hid (RGraphPost n len f w (.returned (.tuple #[.pointer none, .int .i64 why])) (wr.alloc (.cells #[.int .i64 x, .int .i64 y, .int .i64 z, .string xk, .int .i64 xa, .int .i64 xb, .bool xn, .bool xc] 25))) := ⟨.inl ⟨why, ER.out, rfl⟩, B2.out⟩
        clear AD k0 k1 k2 k3 k4 k5 k6 k7
        go_wp2_with fail
        refine bodyPost_ret (v := .tuple #[.pointer none, .int .i64 why]) (by simp [results, Tryz.results14, go_sem]) rfl PO.out
    · have hjli : ¬ (j : Int) < len := by omega
      have hjn : len = j := by omega
      have PO : Hid (RGraphPost n len f w (.returned (.tuple #[.pointer (some ⟨b, 0, none⟩), .int .i64 0])) wr) := by
        refine ⟨.inr ⟨fun i hi => OX.out i (by omega), b, v, rw', rfl, ?_, LB.out, LO2.out⟩, BX.out⟩
        rw [hjn]
        exact GX.out
      clear hjn
      go_wp2_with fail
      refine bodyPost_ret (v := .tuple #[.pointer (some ⟨b, 0, none⟩), .int .i64 0]) (by simp [results, Tryz.results14, go_sem]) rfl PO.out
end Go.Proofs.YtdihbeffomibeaaGreatDoor
