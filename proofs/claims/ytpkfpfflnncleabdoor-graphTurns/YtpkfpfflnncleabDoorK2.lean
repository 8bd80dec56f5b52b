/-
  The law GraphOnly.
-/
import Derived.Test.YtpkfpfflnncleabDoorK1
namespace Go.Proofs.YtpkfpfflnncleabDoor
set_option linter.unusedVariables false
set_option linter.unusedSimpArgs false
open Go.RowKit

set_option maxHeartbeats 8000000 in
theorem gonly_walk (n0 : Int) (ao : Option Addr) (cp : Nat) (es : List (Int × Int × Int)) (a c : Int) (w : World) (hz : ArgE w ao es) (hl : es.length ≤ maxLen) (hT : Tab w) :
    Calls Tryd.prog 7 #[.int .i64 n0, .slice ao es.length cp, .int .i64 a, .int .i64 c] w fun e w' => e = .returned (.bool true) ∧ Below w.heap.size w w' := by
  obtain ⟨N, hn, hD0⟩ := u64_tmod n0 30 (by decide) (by decide)
  have hD : (IntKind.u64.wrap n0).tmod 30 = (N : Int) := hD0
  clear hD0
  have D := hid (drawn_D (N + 2) (by omega) ao cp es w hz hl)
  have TB := hid hT
  clear hz hl hT
  have hni : (N : Int) < 30 := by omega
  have e2 : (2 + (N : Int)) = ((N + 2 : Nat) : Int) := by omega
  go_enter Tryd.func7, Tryd.ntmps7
  go_wp2_with fail
  try rw [e2]
  clear hD e2 hni
  refine D.out.mono ?_
  rintro e w1 ⟨⟨b, b2, rfl, r, bk, ck, v, rw', L, g1, r1, -, -, dg⟩, b1⟩
  generalize N + 2 = n at *
  have B1 := hid b1
  have G1 := hid g1
  have R1 := hid r1
  have DG := hid dg
  have SM : Hid (∀ f t, L f t < 16) := g1.small
  have BE : Hid (∀ f t, f < n → n ≤ t → L f t = 0) := fun f t hf ht => g1.beyond f t hf ht
  have T1 := hid (TB.out.later b1)
  clear b1 g1 r1 dg D TB hn
  go_wp2_with fail
  go_at_call 10
  refine (only_is b n r bk ck L 15 w1 G1.out T1.out).mono ?_
  rintro e w2 ⟨⟨b3, r3, bk3, ck3, rfl, g3, -⟩, bl⟩
  have G3 : Hid (Graph w2 b3 n r3 bk3 ck3 L) := (Graph.masked (m := 15) g3 SM.out DG.out).whole SM.out BE.out
  have B2 := hid (B1.out.trans (bl.mono B1.out.size))
  have G2 := hid (G1.out.later bl)
  have R2 := hid (R1.out.later bl)
  have T2 := hid (T1.out.later bl)
  clear g3 bl B1 G1 R1 T1
  go_wp2_with fail
  go_at_call 11
  refine (gsame_is b3 n r3 bk3 ck3 L b2 v rw' w2 G3.out R2.out T2.out).mono ?_
  rintro e w3 ⟨rfl, bl⟩
  have B3 := hid (B2.out.trans (bl.mono B2.out.size))
  have G4 := hid (G2.out.later bl)
  have R4 := hid (R2.out.later bl)
  have T4 := hid (T2.out.later bl)
  clear bl B2 G2 R2 T2 G3
  go_wp2_with fail
  go_at_call 10
  refine (only_is b n r bk ck L 0 w3 G4.out T4.out).mono ?_
  rintro e w4 ⟨⟨b5, r5, bk5, ck5, rfl, g5, -⟩, bl⟩
  have G5 : Hid (Graph w4 b5 n r5 bk5 ck5 (maskL L n 0)) := Graph.masked (m := 0) g5 SM.out DG.out
  have B4 := hid (B3.out.trans (bl.mono B3.out.size))
  have G6 := hid (G4.out.later bl)
  have R6 := hid (R4.out.later bl)
  have T6 := hid (T4.out.later bl)
  clear g5 bl B3 G4 R4 T4
  go_wp2_with fail
  go_at_call 19
  refine (edges_ed b5 n r5 bk5 ck5 (maskL L n 0) w4 G5.out T6.out).mono ?_
  rintro e w5 ⟨⟨ae, ce, rfl, -⟩, bl⟩
  rw [maskL_none L n SM.out]
  have B5 := hid (B4.out.trans (bl.mono B4.out.size))
  have G7 := hid (G6.out.later bl)
  have R7 := hid (R6.out.later bl)
  have T7 := hid (T6.out.later bl)
  clear bl B4 G6 R6 T6 G5
  go_wp2_with fail
  go_at_call 10
  refine (only_is b n r bk ck L a w5 G7.out T7.out).mono ?_
  rintro e w6 ⟨⟨b8, r8, bk8, ck8, rfl, g8, -⟩, bl⟩
  have G8 : Hid (Graph w6 b8 n r8 bk8 ck8 (maskL L n (a % 16).toNat)) := Graph.masked g8 SM.out DG.out
  have B6 := hid (B5.out.trans (bl.mono B5.out.size))
  have R8 := hid (R7.out.later bl)
  have T8 := hid (T7.out.later bl)
  clear g8 bl B5 G7 R7 T7
  go_wp2_with fail
  go_at_call 10
  refine (only_is b8 n r8 bk8 ck8 (maskL L n (a % 16).toNat) c w6 G8.out T8.out).mono ?_
  rintro e w7 ⟨⟨b9, r9, bk9, ck9, rfl, g9, -⟩, bl⟩
  have G9 : Hid (Graph w7 b9 n r9 bk9 ck9 (maskL L n ((a % 16).toNat &&& (c % 16).toNat))) := by
    have h := Graph.masked g9 (maskL_small L n _ SM.out) (maskL_diag L n _ DG.out)
    rw [maskL_mask] at h
    exact h
  have B7 := hid (B6.out.trans (bl.mono B6.out.size))
  have R9 := hid (R8.out.later bl)
  have T9 := hid (T8.out.later bl)
  clear g9 bl B6 R8 T8 G8
  go_wp2_with fail
  go_at_call 13
  refine (ronly_is b2 n v rw' L (bits .and .i64 a c) w7 R9.out).mono ?_
  rintro e w8 ⟨⟨bA, vA, rwA, rfl, rA, -⟩, bl⟩
  have RA : Hid (RefG w8 bA n vA rwA (maskL L n ((a % 16).toNat &&& (c % 16).toNat))) := by
    have h := RefG.masked rA SM.out DG.out
    rw [mask_and] at h
    exact h
  have B8 := hid (B7.out.trans (bl.mono B7.out.size))
  have GA := hid (G9.out.later bl)
  have TA := hid (T9.out.later bl)
  clear rA bl B7 R9 T9 G9
  go_wp2_with fail
  go_at_call 11
  refine (gsame_is b9 n r9 bk9 ck9 _ bA vA rwA w8 GA.out RA.out TA.out).mono ?_
  rintro e w9 ⟨rfl, bl⟩
  have B9 := hid (B8.out.trans (bl.mono B8.out.size))
  clear bl B8 GA RA TA
  go_wp2_with fail
  go_ret
  exact ⟨rfl, B9.out⟩
end Go.Proofs.YtpkfpfflnncleabDoor
