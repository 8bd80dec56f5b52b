/-
  Walk of the reference's op at operations of kind 1.
-/
import Derived.Test.YtlkmciegpmpbbaaDoorHRefA
import Derived.RegionTactic
import Derived.BigRegion
namespace Go.Proofs.YtlkmciegpmpbbaaDoor
set_option linter.unusedVariables false
set_option linter.unusedSimpArgs false
open Go.RowKit

set_option maxHeartbeats 8000000 in
set_option maxRecDepth 100000 in
theorem refOp_1 (s : ByteArray) (vl : Int) (il : List Int) (hs nl : Bool) (lv : Value) (w : World) (hz : s.size ≤ 6) (hv : inI vl) (hvl : ∀ x ∈ il, inI x) (h40 : il.length ≤ 40) (hok : opOk (1, s, vl, il, hs, nl) = true) (hl : IntsIn Any w lv il) :
    Calls Tryd.prog 19 #[.agg #[.int .i64 1, .string s, .int .i64 vl, lv, .bool hs, .bool nl]] w fun e w' => (∃ r : ByteArray, e = .returned (.string r) ∧ r.data.toList = refOp (1, s, vl, il, hs, nl) ∧ r.size ≤ 2000) ∧ Below w.heap.size w w' := by
  obtain ⟨a1, cc1, rfl, hlb, hlc⟩ := id hl
  have HLC := hid hlc
  obtain ⟨A1, t1, z1, p1⟩ := cat ⟨#[91, 32]⟩ ⟨#[97, 112, 112, 101, 110, 100, 32]⟩ (by decide)
  have z1' : A1.size = 2 + 7 := z1
  clear z1
  obtain ⟨A2, t2, z2, p2⟩ := cat A1 s (by omega)
  have HT0 : Hid (A2.data.toList = [91, 32] ++ opPre 1 ++ s.data.toList) := by show A2.data.toList = _; rw [t2.out, t1.out]; rfl
  have HB0 : Hid (∀ o, Below w.heap.size w (w.alloc o)) := fun o => below_box w o
  clear hl hlc t1 t2
  go_enter Tryd.func19, Tryd.ntmps19
  go_wp2_with fail
  go_region
  go_wp2_with fail
  refine (decimal_any vl _ hv.1 hv.2).mono ?_
  rintro e w5 ⟨⟨D, rfl, hD⟩, b5⟩
  have B5 : Hid (Below w.heap.size w w5) := bl_tr (by repeat (first | exact Below.refl _ _ | apply Below.drew | refine Below.alloc ?_ (by simp) _)) b5
  have hDz := dec_text hv hD
  obtain ⟨A3, t3, z3, p3⟩ := cat ⟨#[32]⟩ D (by show 1 + D.size ≤ _; omega)
  have z3' : A3.size = 1 + D.size := z3
  obtain ⟨A4, t4, z4, p4⟩ := cat A2 A3 (by omega)
  have HT4 : Hid (A4.data.toList = ([91, 32] ++ opPre 1 ++ s.data.toList) ++ 32 :: decimal vl) := by show A4.data.toList = _; rw [t4.out, HT0.out, t3.out, hD]; rfl
  clear b5 hD t3 t4 z3
  obtain ⟨Z, tz, zz, pz⟩ := cat A4 ⟨#[32, 93]⟩ (by show A4.size + 2 ≤ _; omega)
  have zz' : Z.size = A4.size + 2 := zz
  clear zz
  go_wp2_with fail
  go_ret
  refine ⟨⟨Z, rfl, ?_, by omega⟩, B5.out⟩
  rw [tz.out, HT4.out]
  simp [refOp, refMid, MOp.kind, MOp.key, MOp.value, MOp.list, MOp.has, MOp.nl]
end Go.Proofs.YtlkmciegpmpbbaaDoor
