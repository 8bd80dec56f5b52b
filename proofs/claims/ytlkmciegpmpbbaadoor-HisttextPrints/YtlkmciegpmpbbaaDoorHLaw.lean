/-
  The law's own walk: any history as a text, and whether it may be; it stays.
-/
import Derived.Test.YtlkmciegpmpbbaaDoorHRefP
namespace Go.Proofs.YtlkmciegpmpbbaaDoor
set_option linter.unusedVariables false
set_option linter.unusedSimpArgs false
open Go.RowKit

theorem text_is {r : ByteArray} {l : List MEv} (h : r.data.toList = refText l) : r = ⟨(printL false (toksOf l)).toArray⟩ := by
  rw [ByteArray.ext_iff, ← Array.toList_inj, h, print_ref]

/-- What both Prints hand out. -/
def textOf (l : List MEv) : ByteArray := if canM l = true then ⟨(printL false (toksOf l)).toArray⟩ else ⟨#[]⟩

theorem printH_any (v : Value) (l : List MEv) (w : World) (te : TypeId) (pe : Value) (hv : w.cell? ⟨0, 0, none⟩ = some pe) (htab : Pow10 w) (h : EvsIn Any w v l) (hvf : ValsFit l) :
    Calls Tryd.prog 7 #[v] w fun e w' => e = .returned (.string (textOf l)) ∧ Below w.heap.size w w' := by
  unfold textOf
  cases hc : canM l with
  | true => rw [if_pos rfl]; exact printH_yes v l w te pe hv htab h hc hvf
  | false => rw [if_neg (by simp)]; exact printH_no v l w te pe hv h hc
theorem refPrintH_any (v : Value) (l : List MEv) (w : World) (h : EvsIn Any w v l) (hvf : ValsFit l) (hkf : KeysFit l) :
    Calls Tryd.prog 8 #[v] w fun e w' => e = .returned (.string (textOf l)) ∧ Below w.heap.size w w' := by
  unfold textOf
  cases hc : canM l with
  | true =>
    rw [if_pos rfl]
    refine (refPrintH_yes v l w h hc hvf hkf).mono fun e w' ⟨⟨r, he, hr⟩, hb⟩ => ⟨?_, hb⟩
    rw [he, text_is hr]
  | false => rw [if_neg (by simp)]; exact refPrintH_no v l w h hc hkf

set_option maxHeartbeats 2000000 in
set_option maxRecDepth 100000 in
theorem prints_walk (v : Value) (l : List MEv) (w : World) (te : TypeId) (pe : Value) (hv : w.cell? ⟨0, 0, none⟩ = some pe) (htab : Pow10 w) (h : EvsIn Any w v l) (hvf : ValsFit l) (hkf : KeysFit l) :
    Calls Tryd.prog 3 #[v] w fun e w' => e = .returned (.bool true) ∧ Below w.heap.size w w' := by
  have h1 : 0 < w.heap.size := World.block_lt_of_cell? _ _ hv
  have HV := hid hv
  have HT : Hid (Lib.TabBelow Tryd.prog w.heap.size w "internal/strconv.uint64pow10" .u64 Lib.pow10Tab) := Lib.tabBelow_of_tabIs htab
  have H := hid h
  have HVF := hid hvf
  have HKF := hid hkf
  obtain ⟨va, vc, rfl, -⟩ := id h
  clear h hv htab hvf hkf
  go_enter Tryd.func3, Tryd.ntmps3
  go_wp2_with fail
  refine (events_any _ l w H.out).mono ?_
  rintro e w1 ⟨v1, rfl, t1, b1⟩
  have B1 := hid b1
  have E1 : Hid (EvsIn Any w1 v1 l) := t1.keep (fun _ _ _ => rfl) (fun _ _ _ => trivial)
  have E0 := hid (H.out.below b1)
  obtain ⟨a1, c1, rfl, -⟩ := id t1
  clear t1 b1
  have HV1 : Hid (w1.cell? ⟨0, 0, none⟩ = some pe) := (B1.out.cell (p := ⟨0, 0, none⟩) h1).trans HV.out
  go_wp2_with fail
  refine (can_any _ l _ te pe HV1.out E1.out).mono ?_
  rintro e w2 ⟨rfl, b2⟩
  have B2 : Hid (Below w.heap.size w w2) := B1.out.trans (b2.mono B1.out.size)
  have E12 := hid (E1.out.below b2)
  have E02 := hid (E0.out.below b2)
  clear b2
  go_wp2_with fail
  refine (refCan_any _ l _ HKF.out E02.out).mono ?_
  rintro e w3 ⟨rfl, b3⟩
  have B3 : Hid (Below w.heap.size w w3) := B2.out.trans (b3.mono B2.out.size)
  have E13 := hid (E12.out.below b3)
  have E03 := hid (E02.out.below b3)
  clear b3
  have HV3 : Hid (w3.cell? ⟨0, 0, none⟩ = some pe) := (B3.out.cell (p := ⟨0, 0, none⟩) h1).trans HV.out
  have PC := printH_any (.slice a1 l.length c1) l w3 te pe HV3.out (HT.out _ B3.out) E13.out HVF.out
  have RC := fun W hW => refPrintH_any (.slice va l.length vc) l W hW HVF.out HKF.out
  generalize canM l = cm at *
  have hcc : (cm == cm) = true := by cases cm <;> rfl
  generalize textOf l = tt at *
  have htt : (tt.toList == tt.toList) = true := by simp
  have HPC := hid PC
  have HRC := hid RC
  clear PC RC
  go_wp2_with fail
  refine HPC.out.mono ?_
  rintro e w4 ⟨rfl, b4⟩
  have B4 : Hid (Below w.heap.size w w4) := B3.out.trans (b4.mono B3.out.size)
  have E14 := hid (E13.out.below b4)
  have E04 := hid (E03.out.below b4)
  clear b4
  go_wp2_with fail
  refine (HRC.out _ E04.out).mono ?_
  rintro e w5 ⟨rfl, b5⟩
  have B5 : Hid (Below w.heap.size w w5) := B4.out.trans (b5.mono B4.out.size)
  have E15 := hid (E14.out.below b5)
  have E05 := hid (E04.out.below b5)
  clear b5
  go_wp2_with fail
  refine (same_any _ _ l l _ E15.out E05.out).mono ?_
  rintro e w6 ⟨rfl, b6⟩
  rw [show evsEq l l = true from allEq_refl _ evEq_refl l]
  have B6 : Hid (Below w.heap.size w w6) := B5.out.trans (b6.mono B5.out.size)
  clear b6
  go_wp2_with fail
  go_ret
  exact ⟨rfl, B6.out⟩
end Go.Proofs.YtlkmciegpmpbbaaDoor
