/-
  The law GraphTurns.
-/
import Derived.Test.YtpkfpfflnncleabDoorK2
namespace Go.Proofs.YtpkfpfflnncleabDoor
set_option linter.unusedVariables false
set_option linter.unusedSimpArgs false
open Go.RowKit

theorem Save.mono {P Q : Nat → Prop} {w w' : World} (h : Save P w w') (hPQ : ∀ k, P k → Q k) : Save Q w w' :=
  ⟨h.os, h.tape, h.output, h.size, fun k hk hn => h.block k hk (fun hp => hn (hPQ k hp))⟩
/-- Add, whatever the edge: only words are written. -/
theorem gadd_any (b n r : Nat) (bk ck : Nat → Nat) (L : Nat → Nat → Nat) (x y z : Int) (w : World) (h : Graph w b n r bk ck L) :
    Calls Tryd.prog 14 #[.pointer (some ⟨b, 0, none⟩), .int .i64 x, .int .i64 y, .int .i64 z] w fun e w' => (∃ y, e = .returned (.int .i64 y)) ∧ Save (fun c => ∃ k, k < 4 * n ∧ c = ck k) w w' := by
  by_cases hw : addWhy n x y z = 0
  · obtain ⟨F, T, X, rfl, rfl, rfl, hF, hT, hX1, hX, hne⟩ := addWhy_0 hw
    refine (gadd_ok b n r bk ck L F T X w h hF hT hX1 hX hne).mono ?_
    rintro e w' ⟨rfl, s, bs⟩
    exact ⟨⟨_, rfl⟩, bs.mono fun c hc => by obtain ⟨i, hi, rfl⟩ := hc; exact ⟨_, by omega, rfl⟩⟩
  · refine (gadd_no b n r bk ck L x y z w h hw).mono ?_
    rintro e w' ⟨rfl, rfl⟩
    exact ⟨⟨_, rfl⟩, Save.refl _ _⟩
theorem Save.stay {w w' : World} {b n r : Nat} {bk ck : Nat → Nat} {L : Nat → Nat → Nat} (h : Graph w b n r bk ck L) (hs : Save (fun c => ∃ k, k < 4 * n ∧ c = ck k) w w') : Stay 72 w w' := by
  intro x cs t hx ht
  refine (hs.block x (blt hx) ?_).trans hx
  rintro ⟨k, hk, rfl⟩
  obtain ⟨cs', h1⟩ := h.words k hk
  exact tags hx h1 ht rfl
/-- Another graph, with words of its own, stays. -/
theorem Graph.spare {w w' : World} {b n r : Nat} {bk ck : Nat → Nat} {L : Nat → Nat → Nat} (h : Graph w b n r bk ck L) (hs : Save (fun c => ∃ k, k < 4 * n ∧ c = ck k) w w') {b2 n2 r2 : Nat} {bk2 ck2 : Nat → Nat} {L2 : Nat → Nat → Nat} (g : Graph w b2 n2 r2 bk2 ck2 L2) (hap : ∀ k k', k < 4 * n → k' < 4 * n2 → ck k ≠ ck2 k') : Graph w' b2 n2 r2 bk2 ck2 L2 := by
  have hst := hs.stay h
  obtain ⟨cur, h1, h2, h3⟩ := g.row
  refine ⟨hst _ _ _ g.box (by decide), ⟨cur, hst _ _ _ h1 (by decide), h2, h3⟩, fun k hk => ?_, g.apart, g.small, g.bound⟩
  obtain ⟨ws, s1, s2⟩ := (g.sets k hk).ex
  refine ⟨⟨ws, ⟨hst _ _ _ s1.box (by decide), (hs.block _ (blt s1.row) ?_).trans s1.row, s1.len, s1.small, s1.bound⟩, s2⟩, (g.sets k hk).top⟩
  rintro ⟨i, hi, e⟩
  exact hap i k hi hk e.symm

set_option maxHeartbeats 8000000 in
theorem gturns_ok (n : Nat) (hn : n ≤ 300) (ao : Option Addr) (cp : Nat) (es : List (Int × Int × Int)) (a : Int) (w : World) (hz : ArgE w ao es) (hl : es.length ≤ maxLen) (hT : Tab w) :
    Calls Tryd.prog 3 #[.int .i64 n, .slice ao es.length cp, .int .i64 a] w fun e w' => e = .returned (.bool true) ∧ Below w.heap.size w w' := by
  have D := hid (drawn_D n hn ao cp es w hz hl)
  have TB := hid hT
  clear hz hl hT hn
  go_enter Tryd.func3, Tryd.ntmps3
  go_wp2_with fail
  refine D.out.mono ?_
  rintro e w1 ⟨⟨b, b2, rfl, r, bk, ck, v, rw', L, g1, r1, -, -, dg⟩, b1⟩
  have B1 := hid b1
  have G1 := hid g1
  have R1 := hid r1
  have DG := hid dg
  have SM : Hid (∀ f t, L f t < 16) := g1.small
  have BE : Hid (∀ f t, f < n → n ≤ t → L f t = 0) := fun f t hf ht => g1.beyond f t hf ht
  have T1 := hid (TB.out.later b1)
  clear b1 g1 r1 dg D TB
  go_wp2_with fail
  go_at_call 9
  refine (turn_is b n r bk ck L w1 G1.out T1.out).mono ?_
  rintro e w2 ⟨⟨b3, r3, bk3, ck3, rfl, g3, lo3⟩, bl⟩
  have G3 : Hid (Graph w2 b3 n r3 bk3 ck3 (turnL L n)) := g3.turned SM.out DG.out
  have LO3 := hid lo3
  have C2 := hid bl
  clear g3 bl lo3
  go_wp2_with fail
  go_at_call 10
  refine (only_is b n r bk ck L a w2 (G1.out.later C2.out) (T1.out.later C2.out)).mono ?_
  rintro e w3 ⟨⟨b4, r4, bk4, ck4, rfl, g4, lo4⟩, bl⟩
  have G4 : Hid (Graph w3 b4 n r4 bk4 ck4 (maskL L n (a % 16).toNat)) := Graph.masked g4 SM.out DG.out
  have AP : Hid (∀ k k', k < 4 * n → k' < 4 * n → ck3 k ≠ ck4 k') := fun k k' hk hk' => by
    obtain ⟨cs, h1⟩ := G3.out.words k hk
    have h2 := blt h1
    have h3 := lo4 k' hk'
    omega
  have LO4 : Hid (∀ k, k < 4 * n → w1.heap.size ≤ ck4 k) := fun k hk => Nat.le_trans C2.out.size (lo4 k hk)
  have G5 := hid (G3.out.later bl)
  have C3 := hid (C2.out.trans (bl.mono C2.out.size))
  clear g4 bl lo4 G3 C2
  go_wp2_with fail
  go_at_call 12
  refine (rturn_is b2 n v rw' L w3 (R1.out.later C3.out)).mono ?_
  rintro e w4 ⟨⟨b5, v5, rw5, rfl, g5, -⟩, bl⟩
  have R5 : Hid (RefG w4 b5 n v5 rw5 (turnL L n)) := g5.turned SM.out DG.out
  have G6 := hid (G5.out.later bl)
  have G7 := hid (G4.out.later bl)
  have C4 := hid (C3.out.trans (bl.mono C3.out.size))
  clear g5 bl G5 G4 C3
  go_wp2_with fail
  go_at_call 11
  refine (gsame_is b3 n r3 bk3 ck3 _ b5 v5 rw5 w4 G6.out R5.out (T1.out.later C4.out)).mono ?_
  rintro e w5 ⟨rfl, bl⟩
  have G8 := hid (G6.out.later bl)
  have G9 := hid (G7.out.later bl)
  have C5 := hid (C4.out.trans (bl.mono C4.out.size))
  clear bl G6 G7 C4 R5
  go_wp2_with fail
  go_at_call 13
  refine (ronly_is b2 n v rw' L a w5 (R1.out.later C5.out)).mono ?_
  rintro e w6 ⟨⟨b6, v6, rw6, rfl, g6, -⟩, bl⟩
  have R6 : Hid (RefG w6 b6 n v6 rw6 (maskL L n (a % 16).toNat)) := RefG.masked g6 SM.out DG.out
  have GA := hid (G8.out.later bl)
  have GB := hid (G9.out.later bl)
  have C6 := hid (C5.out.trans (bl.mono C5.out.size))
  clear g6 bl G8 G9 C5
  go_wp2_with fail
  go_at_call 11
  refine (gsame_is b4 n r4 bk4 ck4 _ b6 v6 rw6 w6 GB.out R6.out (T1.out.later C6.out)).mono ?_
  rintro e w7 ⟨rfl, bl⟩
  have GC := hid (GA.out.later bl)
  have GD := hid (GB.out.later bl)
  have C7 := hid (C6.out.trans (bl.mono C6.out.size))
  clear bl GA GB C6 R6
  go_wp2_with fail
  go_at_call 9
  refine (turn_is b3 n r3 bk3 ck3 _ w7 GC.out (T1.out.later C7.out)).mono ?_
  rintro e w8 ⟨⟨b7, r7, bk7, ck7, rfl, g7, -⟩, bl⟩
  have G0 : Hid (Graph w8 b7 n r7 bk7 ck7 L) := (g7.turned (turnL_small L n SM.out) (turnL_diag L n DG.out)).back SM.out BE.out
  have GE := hid (GC.out.later bl)
  have GF := hid (GD.out.later bl)
  have C8 := hid (C7.out.trans (bl.mono C7.out.size))
  clear g7 bl GC GD C7
  go_wp2_with fail
  go_at_call 11
  refine (gsame_is b7 n r7 bk7 ck7 L b2 v rw' w8 G0.out (R1.out.later C8.out) (T1.out.later C8.out)).mono ?_
  rintro e w9 ⟨rfl, bl⟩
  have GG := hid (GE.out.later bl)
  have GH := hid (GF.out.later bl)
  have C9 := hid (C8.out.trans (bl.mono C8.out.size))
  clear bl GE GF C8 G0
  go_wp2_with fail
  go_at_call 14
  refine (gadd_any b3 n r3 bk3 ck3 _ 0 1 15 w9 GG.out).mono ?_
  rintro e wA ⟨⟨y, rfl⟩, sv⟩
  have GI := hid (GG.out.spare sv GH.out AP.out)
  have CA := hid (C9.out.trans (sv.below w1.heap.size (fun k hk => by obtain ⟨i, hi, rfl⟩ := hk; exact LO3.out i hi) C9.out.size))
  clear sv GG GH C9 AP LO3
  go_wp2_with fail
  go_at_call 14
  refine (gadd_any b4 n r4 bk4 ck4 _ 1 0 15 wA GI.out).mono ?_
  rintro e wB ⟨⟨y2, rfl⟩, sv⟩
  have CB := hid (CA.out.trans (sv.below w1.heap.size (fun k hk => by obtain ⟨i, hi, rfl⟩ := hk; exact LO4.out i hi) CA.out.size))
  clear sv GI CA LO4
  go_wp2_with fail
  go_at_call 11
  refine (gsame_is b n r bk ck L b2 v rw' wB (G1.out.later CB.out) (R1.out.later CB.out) (T1.out.later CB.out)).mono ?_
  rintro e wC ⟨rfl, bl⟩
  have CC := hid (B1.out.trans ((CB.out.trans (bl.mono CB.out.size)).mono B1.out.size))
  clear bl CB
  go_wp2_with fail
  go_ret
  exact ⟨rfl, CC.out⟩
theorem gturns_no (n : Int) (hn : n < 0 ∨ 300 < n) (ao : Option Addr) (cp : Nat) (es : List (Int × Int × Int)) (a : Int) (w : World) (hz : ArgE w ao es) (hl : es.length ≤ maxLen) :
    Calls Tryd.prog 3 #[.int .i64 n, .slice ao es.length cp, .int .i64 a] w fun e w' => e = .returned (.bool true) ∧ Below w.heap.size w w' := by
  have D := hid (drawn_no n hn ao cp es w hz hl)
  clear hz hl hn
  go_enter Tryd.func3, Tryd.ntmps3
  go_wp2_with fail
  refine D.out.mono ?_
  rintro e w1 ⟨rfl, b1⟩
  have B1 := hid b1
  clear b1 D
  go_wp2_with fail
  go_ret
  exact ⟨rfl, B1.out⟩
theorem gturns_walk (n0 : Int) (ao : Option Addr) (cp : Nat) (es : List (Int × Int × Int)) (a : Int) (w : World) (hz : ArgE w ao es) (hl : es.length ≤ maxLen) (hT : Tab w) :
    Calls Tryd.prog 3 #[.int .i64 n0, .slice ao es.length cp, .int .i64 a] w fun e w' => e = .returned (.bool true) ∧ Below w.heap.size w w' := by
  by_cases hn : n0 < 0 ∨ 300 < n0
  · exact gturns_no n0 hn ao cp es a w hz hl
  · obtain ⟨n, rfl⟩ : ∃ n : Nat, n0 = n := ⟨n0.toNat, by omega⟩
    exact gturns_ok n (by omega) ao cp es a w hz hl hT
end Go.Proofs.YtpkfpfflnncleabDoor
