/-
  Walk of the reference's op at operations of kind 2.
-/
import Derived.Test.YtlkmciegpmpbbaaDoorHRefA
import Derived.RegionTactic
import Derived.BigRegion
namespace Go.Proofs.YtlkmciegpmpbbaaDoor
set_option linter.unusedVariables false
set_option linter.unusedSimpArgs false
open Go.RowKit

set_option maxHeartbeats 8000000 in
set_option maxRecDepth 100000 in
theorem refOp_2 (s : ByteArray) (vl : Int) (il : List Int) (hs nl : Bool) (lv : Value) (w : World) (hz : s.size ≤ 6) (hv : inI vl) (hvl : ∀ x ∈ il, inI x) (h40 : il.length ≤ 40) (hok : opOk (2, s, vl, il, hs, nl) = true) (hl : IntsIn Any w lv il) :
    Calls Tryd.prog 19 #[.agg #[.int .i64 2, .string s, .int .i64 vl, lv, .bool hs, .bool nl]] w fun e w' => (∃ r : ByteArray, e = .returned (.string r) ∧ r.data.toList = refOp (2, s, vl, il, hs, nl) ∧ r.size ≤ 2000) ∧ Below w.heap.size w w' := by
  obtain ⟨a1, cc1, rfl, hlb, hlc⟩ := id hl
  have HLC := hid hlc
  obtain ⟨A1, t1, z1, p1⟩ := cat ⟨#[91, 32]⟩ ⟨#[114, 101, 97, 100, 32]⟩ (by decide)
  have z1' : A1.size = 2 + 5 := z1
  clear z1
  obtain ⟨A2, t2, z2, p2⟩ := cat A1 s (by omega)
  have HT0 : Hid (A2.data.toList = [91, 32] ++ opPre 2 ++ s.data.toList) := by show A2.data.toList = _; rw [t2.out, t1.out]; rfl
  have HB0 : Hid (∀ o, Below w.heap.size w (w.alloc o)) := fun o => below_box w o
  clear hl hlc t1 t2
  go_enter Tryd.func19, Tryd.ntmps19
  go_wp2_with fail
  go_region
  cases hs with
  | false =>
    obtain ⟨Z, tz, zz, pz⟩ := cat A2 ⟨#[32, 93]⟩ (by show A2.size + 2 ≤ _; omega)
    have zz' : Z.size = A2.size + 2 := zz
    clear zz
    go_wp2_with fail
    go_ret
    refine ⟨⟨Z, rfl, ?_, by omega⟩, (by repeat (first | exact Below.refl _ _ | apply Below.drew | refine Below.alloc ?_ (by simp) _))⟩
    rw [tz.out, HT0.out]
    simp [refOp, refMid, MOp.kind, MOp.key, MOp.value, MOp.list, MOp.has, MOp.nl]
  | true =>
    obtain ⟨A3, t3, z3, p3⟩ := cat A2 ⟨#[32, 40]⟩ (by show A2.size + 2 ≤ _; omega)
    have z3' : A3.size = A2.size + 2 := z3
    have HT3 : Hid (A3.data.toList = ([91, 32] ++ opPre 2 ++ s.data.toList) ++ [32, 40]) := by show A3.data.toList = _; rw [t3.out, HT0.out]
    clear t3 z3
    go_wp2_with fail
    go_loopg [3, 67] il.length (fun g vs i wr => ∃ (k : Nat) (S : ByteArray), k ≤ il.length ∧ il.length - k ≤ g ∧ i = .int .i64 k ∧ vs = .string S ∧ S.size ≤ A3.size + k * 22 ∧ Aside (S.data.toList = (([91, 32] ++ opPre 2 ++ s.data.toList) ++ [32, 40]) ++ (il.take k).flatMap (fun v => 32 :: decimal v)) ∧ Aside (Below w.heap.size w wr))
    case atStart => exact ⟨0, A3, Nat.zero_le _, by omega, rfl, rfl, by omega, by rw [List.take_zero, List.flatMap_nil, List.append_nil]; exact HT3.out, (by repeat (first | exact Below.refl _ _ | apply Below.drew | refine Below.alloc ?_ (by simp) _))⟩
    case round =>
      obtain ⟨k, S, hk, hg, rfl, rfl, hSz, HS, BW⟩ := hrel
      by_cases hlt : k < il.length
      · have hlti : (k : Int) < (il.length : Int) := by omega
        obtain ⟨b1, o1, rfl, _, hcc⟩ := HLC.out (by omega)
        have hc0 := hcc k hlt
        have d0 : wr.cell? ⟨b1, o1 + k, none⟩ = some (.int .i64 (il.getD k default)) := (BW.out.cell (p := ⟨b1, o1 + k, none⟩) (World.block_lt_of_cell? _ _ hc0)).trans hc0
        have hxv := hvl _ (mem_at hlt)
        have HTK : Hid ((il.take (k + 1)).flatMap (fun v => 32 :: decimal v) = (il.take k).flatMap (fun v => 32 :: decimal v) ++ (32 :: decimal (il.getD k default))) := take_flat (fun v => 32 :: decimal v) hlt
        clear hcc hc0
        generalize il.getD k default = x at *
        go_wp2_with fail
        refine (decimal_any x _ hxv.1 hxv.2).mono ?_
        rintro e w5 ⟨⟨D, rfl, hD⟩, b5⟩
        have B5 : Hid (Below w.heap.size w w5) := bl_tr BW.out b5
        have hDz := dec_text hxv hD
        obtain ⟨A5, t5, z5, p5⟩ := cat ⟨#[32]⟩ D (by show 1 + D.size ≤ _; omega)
        have z5' : A5.size = 1 + D.size := z5
        obtain ⟨A6, t6, z6, p6⟩ := cat S A5 (by omega)
        have HT6 : Hid (A6.data.toList = (([91, 32] ++ opPre 2 ++ s.data.toList) ++ [32, 40]) ++ (il.take (k + 1)).flatMap (fun v => 32 :: decimal v)) := by show A6.data.toList = _; rw [t6.out, HS.out, t5.out, hD, HTK.out]; simp
        clear b5 hD t5 t6 z5 d0
        go_wp2_with fail
        go_roundg (il.length - (k + 1))
        case measure => omega
        case rel => exact ⟨k + 1, A6, by omega, by omega, by go_num, rfl, by omega, HT6.out, B5.out⟩
      · have hk' : k = il.length := by omega
        subst hk'
        rw [List.take_length] at HS
        obtain ⟨A7, t7, z7, p7⟩ := cat S ⟨#[32, 41]⟩ (by show S.size + 2 ≤ _; omega)
        have z7' : A7.size = S.size + 2 := z7
        have HT7 : Hid (A7.data.toList = (([91, 32] ++ opPre 2 ++ s.data.toList) ++ [32, 40]) ++ il.flatMap (fun v => 32 :: decimal v) ++ [32, 41]) := by show A7.data.toList = _; rw [t7.out, HS.out]
        clear t7 z7
        obtain ⟨Z, tz, zz, pz⟩ := cat A7 ⟨#[32, 93]⟩ (by show A7.size + 2 ≤ _; omega)
        have zz' : Z.size = A7.size + 2 := zz
        clear zz
        go_wp2_with fail
        go_ret
        refine ⟨⟨Z, rfl, ?_, by omega⟩, BW.out⟩
        rw [tz.out, HT7.out]
        simp [refOp, refMid, MOp.kind, MOp.key, MOp.value, MOp.list, MOp.has, MOp.nl]
end Go.Proofs.YtlkmciegpmpbbaaDoor
