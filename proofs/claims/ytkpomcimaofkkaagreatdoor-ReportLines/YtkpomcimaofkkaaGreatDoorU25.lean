/-
  The document's reader of a report's text: an anomaly.
-/
import Derived.Test.YtkpomcimaofkkaaGreatDoorU24
namespace Go.Proofs.YtkpomcimaofkkaaGreatDoor.Rp
set_option linter.unusedVariables false
set_option linter.unusedSimpArgs false
open Go.RowKit Go.Lib

set_option maxHeartbeats 8000000 in
set_option maxRecDepth 100000 in
theorem danom_is (bx : Nat) (r0 : Qr) (w : World) (h : DQ bx r0 w) :
    Calls Tryz.prog 28 #[.pointer (some ⟨bx, 0, none⟩)] w fun e w' => (∃ v, e = .returned v ∧ AnV (fun b => w.heap.size ≤ b) w' v (rqAn r0).1) ∧ DQ bx (rqLine (rqAn r0).2).2 w' ∧ Beside bx w w' := by
  obtain ⟨rv, hrv⟩ : ∃ rv, w.heap.size = rv := ⟨_, rfl⟩
  obtain ⟨w0, hw0⟩ : ∃ w0, w.alloc (.cells #[.int .i64 0, .int .i64 0, .int .i64 0, .int .i64 0, .string ⟨#[]⟩, .int .i64 0, .slice none 0 0, .bool false, .int .i64 0] 68) = w0 := ⟨_, rfl⟩
  have AB := below_box w (.cells #[.int .i64 0, .int .i64 0, .int .i64 0, .int .i64 0, .string ⟨#[]⟩, .int .i64 0, .slice none 0 0, .bool false, .int .i64 0] 68)
  rw [hw0] at AB
  have D0 := hid (h.later AB)
  have B0 : Hid (Beside bx w w0) := Beside.of_below AB
  have R0 : Hid (BoxW w0 rv 68 #[.int .i64 0, .int .i64 0, .int .i64 0, .int .i64 0, .string ⟨#[]⟩, .int .i64 0, .slice none 0 0, .bool false, .int .i64 0]) := by rw [← hw0, ← hrv]; exact box_new _ _ _
  have hlt := h.lt
  have lR : bx < rv := by omega
  have mR : w.heap.size ≤ rv := by omega
  have nR : rv ≠ bx := by omega
  have F0 : Hid (r0.1.length ≤ 20000) := h.few
  obtain ⟨qr, hqr⟩ : ∃ qr, rqAn r0 = qr := ⟨_, rfl⟩
  rw [hqr]
  have E0 : Hid (qr = rqAn_1 (rqTake r0 1 wAnomaly).2) := by rw [← hqr]; exact rfl
  clear hqr h AB
  obtain ⟨i0, hi, hz0, hz1, hz2⟩ := info_parts Tryz.infoWhy
  have HI := hid hi
  have HZ0 := hid hz0
  have HZ1 := hid hz1
  have HZ2 := hid hz2
  clear hi hz0 hz1 hz2
  go_enter Tryz.func28, Tryz.ntmps28
  go_wp2_with fail
  clear hw0 hrv
  have C0 := hid (dword_is bx ⟨#[97, 110, 111, 109, 97, 108, 121]⟩ r0 (w0) D0.out)
  obtain ⟨⟨tk0, r1⟩, hz0⟩ : ∃ z, rqTake r0 1 wAnomaly = z := ⟨_, rfl⟩
  have hzb : rqTake r0 1 ⟨#[97, 110, 111, 109, 97, 108, 121]⟩ = (tk0, r1) := hz0
  have C0' : Hid (Calls Tryz.prog 24 #[.pointer (some ⟨bx, 0, none⟩), .string ⟨#[97, 110, 111, 109, 97, 108, 121]⟩] (w0) fun e w' => DT bx (w0) (fun _ => .tuple #[]) ((), r1) e w') := by have q := C0.out; unfold rqText at q; rw [hzb] at q; exact q
  clear C0 hzb
  have E1 : Hid (qr = rqAn_1 r1) := by show _ = _; rw [E0.out]; rw [hz0]
  clear E0
  go_wp2_with fail
  go_at_call 24
  refine C0'.out.mono ?_
  rintro e w1 ⟨rfl, p, b⟩
  have D1 := hid p
  have b2 := b
  have B1 := hid (B0.out.trans b2)
  have R1 := hid (R0.out.beside b2 nR)
  clear p b b2 hz0 D0 B0 R0 C0'
  have KK := hid (dkinds_is w1)
  go_wp2_with fail
  go_at_call 73
  refine KK.out.mono ?_
  rintro e v1 ⟨rfl, hv1⟩
  have AW : Hid (Below w1.heap.size w1 v1) := by rw [← hv1]; exact below_box _ _
  have WW : Hid (WordsAt v1 w1.heap.size rkindWs) := by rw [← hv1]; exact words_is _ _
  obtain ⟨gk, hgk⟩ : ∃ gk, w1.heap.size = gk := ⟨_, rfl⟩
  rw [hgk] at WW
  rw [hgk]
  have C1 := hid (done_is bx gk 11 rkindWs r1 v1 (D1.out.later AW.out) WW.out (by decide))
  obtain ⟨⟨xk, r2⟩, hz1⟩ : ∃ z, rqOne rkindWs 0 r1 = z := ⟨_, rfl⟩
  rw [hz1] at C1
  have E2 : Hid (qr = rqAn_2 (1 + xk) r2) := by show _ = _; rw [E1.out]; unfold rqAn_1 rqKind; rw [hz1]
  clear E1
  have hk11 := rqOne_lt rkindWs 0 r1
  rw [hz1] at hk11
  obtain ⟨kj, hkj, hk11⟩ := hk11
  have hwk : xk + 1 = xk + 1 := rfl
  clear hz1 hv1 hgk KK
  go_wp2_with fail
  go_at_call 27
  refine C1.out.mono ?_
  rintro e w2 ⟨rfl, p, b⟩
  have D2 := hid p
  have b2 := (Beside.of_below (bx := bx) AW.out).trans b
  have B2 := hid (B1.out.trans b2)
  have R2 := hid (R1.out.beside b2 nR)
  clear p b b2 D1 B1 R1 AW WW C1
  have hk3 : xk = (kj : Int) := hkj
  have hkb : (kj : Int) ≤ 11 := by have hl : rkindWs.length = 11 := rfl; rw [hl] at hk11; omega
  have hwr : IntKind.i64.wrap (1 + xk) = 1 + xk := by rw [hk3]; exact wrap_small _ (by omega) (by omega)
  obtain ⟨ob, hob⟩ : ∃ ob, (w2).heap.size = ob := ⟨_, rfl⟩
  obtain ⟨v2, hv2⟩ : ∃ v, (w2).alloc (.cells #[.int .i64 (1 + xk), .int .i64 0, .int .i64 0, .int .i64 0, .string ⟨#[]⟩, .int .i64 0, .slice none 0 0, .bool false, .int .i64 0] 68) = v := ⟨_, rfl⟩
  have AB := below_box (w2) (.cells #[.int .i64 (1 + xk), .int .i64 0, .int .i64 0, .int .i64 0, .string ⟨#[]⟩, .int .i64 0, .slice none 0 0, .bool false, .int .i64 0] 68)
  rw [hv2] at AB
  have A2 : Hid (BoxW v2 ob 68 #[.int .i64 (1 + xk), .int .i64 0, .int .i64 0, .int .i64 0, .string ⟨#[]⟩, .int .i64 0, .slice none 0 0, .bool false, .int .i64 0]) := by rw [← hv2, ← hob]; exact box_new _ _ _
  have lA : bx < ob := by rw [← hob]; exact D2.out.lt
  have mA : w.heap.size ≤ ob := by rw [← hob]; exact B2.out.size
  have nA : ob ≠ bx := by omega
  have nRA : rv ≠ ob := by have := R2.out.lt; omega
  have nAR : ob ≠ rv := Ne.symm nRA
  have R2n := hid (R2.out.later AB)
  have D2n := hid (D2.out.later AB)
  have B2n := hid (B2.out.trans (Beside.of_below AB))
  clear AB D2 B2 R2
  have D2 := D2n
  have B2 := B2n
  have R2 := R2n
  clear D2n B2n R2n
  have hV2 := hid hv2
  clear hv2
  have HKH := hid hkj
  clear hk3 hkb hk11 hkj
  go_wp2_with fail
  rw [hV2.out]
  clear hV2 hob hwr
  have C2 := hid (dnum_is bx r2 (v2) D2.out)
  obtain ⟨⟨x1, r3⟩, hz2⟩ : ∃ z, rqNum r2 = z := ⟨_, rfl⟩
  have hzb : rqNum r2 = _ := hz2
  rw [hzb] at C2
  clear hzb
  have E3 : Hid (qr = rqAn_3 (1 + xk) x1 r3) := by show _ = _; rw [E2.out]; unfold rqAn_2; rw [hz2]
  clear E2
  go_wp2_with fail
  go_at_call 25
  refine C2.out.mono ?_
  rintro e w3 ⟨rfl, p, b⟩
  have D3 := hid p
  have b2 := b
  have B3 := hid (B2.out.trans b2)
  have R3 := hid (R2.out.beside b2 nR)
  have A3 := hid (A2.out.beside b2 nA)
  clear p b b2 hz2 D2 B2 R2 A2 C2
  have C3 := hid (dnum_is bx r3 (w3) D3.out)
  obtain ⟨⟨x2, r4⟩, hz3⟩ : ∃ z, rqNum r3 = z := ⟨_, rfl⟩
  have hzb : rqNum r3 = _ := hz3
  rw [hzb] at C3
  clear hzb
  have E4 : Hid (qr = rqAn_4 (1 + xk) x1 x2 r4) := by show _ = _; rw [E3.out]; unfold rqAn_3; rw [hz3]
  clear E3
  go_wp2_with fail
  go_at_call 25
  refine C3.out.mono ?_
  rintro e w4 ⟨rfl, p, b⟩
  have D4 := hid p
  have b2 := b
  have B4 := hid (B3.out.trans b2)
  have R4 := hid (R3.out.beside b2 nR)
  have A4 := hid (A3.out.beside b2 nA)
  clear p b b2 hz3 D3 B3 R3 A3 C3
  have C4 := hid (dnum_is bx r4 (w4) D4.out)
  obtain ⟨⟨x3, r5⟩, hz4⟩ : ∃ z, rqNum r4 = z := ⟨_, rfl⟩
  have hzb : rqNum r4 = _ := hz4
  rw [hzb] at C4
  clear hzb
  have E5 : Hid (qr = rqAn_5 (1 + xk) x1 x2 x3 r5) := by show _ = _; rw [E4.out]; unfold rqAn_4; rw [hz4]
  clear E4
  go_wp2_with fail
  go_at_call 25
  refine C4.out.mono ?_
  rintro e w5 ⟨rfl, p, b⟩
  have D5 := hid p
  have b2 := b
  have B5 := hid (B4.out.trans b2)
  have R5 := hid (R4.out.beside b2 nR)
  have A5 := hid (A4.out.beside b2 nA)
  clear p b b2 hz4 D4 B4 R4 A4 C4
  have s_A1 := A5.out.cell 1
  have f_A1 := A5.out.soft 1
  replace s_A1 : (w5).cell? ⟨ob, 1, none⟩ = some (.int .i64 0) := s_A1
  have D5n := hid (D5.out.other (g := ob) (i := 1) lA (.int .i64 x1))
  have B5n := hid (B5.out.setNew (p := ⟨ob, 1, none⟩) mA (.int .i64 x1))
  have R5n := hid (R5.out.other (i := 1) (u := .int .i64 x1) nRA)
  have A5n : Hid (BoxW ((w5).setCell ⟨ob, 1, none⟩ (.int .i64 x1)) ob 68 #[.int .i64 (1 + xk), .int .i64 x1, .int .i64 0, .int .i64 0, .string ⟨#[]⟩, .int .i64 0, .slice none 0 0, .bool false, .int .i64 0]) := A5.out.set (i := 1) (u := .int .i64 x1) rfl
  clear D5 B5 R5 A5
  have D5 := D5n
  have B5 := B5n
  have R5 := R5n
  have A5 := A5n
  clear D5n B5n R5n A5n
  have s_A2 := A5.out.cell 2
  have f_A2 := A5.out.soft 2
  replace s_A2 : ((w5).setCell ⟨ob, 1, none⟩ (.int .i64 x1)).cell? ⟨ob, 2, none⟩ = some (.int .i64 0) := s_A2
  have D5n := hid (D5.out.other (g := ob) (i := 2) lA (.int .i64 x2))
  have B5n := hid (B5.out.setNew (p := ⟨ob, 2, none⟩) mA (.int .i64 x2))
  have R5n := hid (R5.out.other (i := 2) (u := .int .i64 x2) nRA)
  have A5n : Hid (BoxW (((w5).setCell ⟨ob, 1, none⟩ (.int .i64 x1)).setCell ⟨ob, 2, none⟩ (.int .i64 x2)) ob 68 #[.int .i64 (1 + xk), .int .i64 x1, .int .i64 x2, .int .i64 0, .string ⟨#[]⟩, .int .i64 0, .slice none 0 0, .bool false, .int .i64 0]) := A5.out.set (i := 2) (u := .int .i64 x2) rfl
  clear D5 B5 R5 A5
  have D5 := D5n
  have B5 := B5n
  have R5 := R5n
  have A5 := A5n
  clear D5n B5n R5n A5n
  have s_A3 := A5.out.cell 3
  have f_A3 := A5.out.soft 3
  replace s_A3 : (((w5).setCell ⟨ob, 1, none⟩ (.int .i64 x1)).setCell ⟨ob, 2, none⟩ (.int .i64 x2)).cell? ⟨ob, 3, none⟩ = some (.int .i64 0) := s_A3
  have D5n := hid (D5.out.other (g := ob) (i := 3) lA (.int .i64 x3))
  have B5n := hid (B5.out.setNew (p := ⟨ob, 3, none⟩) mA (.int .i64 x3))
  have R5n := hid (R5.out.other (i := 3) (u := .int .i64 x3) nRA)
  have A5n : Hid (BoxW ((((w5).setCell ⟨ob, 1, none⟩ (.int .i64 x1)).setCell ⟨ob, 2, none⟩ (.int .i64 x2)).setCell ⟨ob, 3, none⟩ (.int .i64 x3)) ob 68 #[.int .i64 (1 + xk), .int .i64 x1, .int .i64 x2, .int .i64 x3, .string ⟨#[]⟩, .int .i64 0, .slice none 0 0, .bool false, .int .i64 0]) := A5.out.set (i := 3) (u := .int .i64 x3) rfl
  clear D5 B5 R5 A5
  have D5 := D5n
  have B5 := B5n
  have R5 := R5n
  have A5 := A5n
  clear D5n B5n R5n A5n
  have C5 := hid (dkey_is bx r5 ((((w5).setCell ⟨ob, 1, none⟩ (.int .i64 x1)).setCell ⟨ob, 2, none⟩ (.int .i64 x2)).setCell ⟨ob, 3, none⟩ (.int .i64 x3)) D5.out)
  obtain ⟨⟨x4, r6⟩, hz5⟩ : ∃ z, rqKey r5 = z := ⟨_, rfl⟩
  have hzb : rqKey r5 = _ := hz5
  rw [hzb] at C5
  clear hzb
  have E6 : Hid (qr = rqAn_6 (1 + xk) x1 x2 x3 x4 r6) := by show _ = _; rw [E5.out]; unfold rqAn_5; rw [hz5]
  clear E5
  go_wp2_with fail
  go_at_call 74
  refine C5.out.mono ?_
  rintro e w6 ⟨rfl, p, b⟩
  have D6 := hid p
  have b2 := b
  have B6 := hid (B5.out.trans b2)
  have R6 := hid (R5.out.beside b2 nR)
  have A6 := hid (A5.out.beside b2 nA)
  clear p b b2 hz5 D5 B5 R5 A5 C5
  have s_A4 := A6.out.cell 4
  have f_A4 := A6.out.soft 4
  replace s_A4 : (w6).cell? ⟨ob, 4, none⟩ = some (.string ⟨#[]⟩) := s_A4
  have D6n := hid (D6.out.other (g := ob) (i := 4) lA (.string x4))
  have B6n := hid (B6.out.setNew (p := ⟨ob, 4, none⟩) mA (.string x4))
  have R6n := hid (R6.out.other (i := 4) (u := .string x4) nRA)
  have A6n : Hid (BoxW ((w6).setCell ⟨ob, 4, none⟩ (.string x4)) ob 68 #[.int .i64 (1 + xk), .int .i64 x1, .int .i64 x2, .int .i64 x3, .string x4, .int .i64 0, .slice none 0 0, .bool false, .int .i64 0]) := A6.out.set (i := 4) (u := .string x4) rfl
  clear D6 B6 R6 A6
  have D6 := D6n
  have B6 := B6n
  have R6 := R6n
  have A6 := A6n
  clear D6n B6n R6n A6n
  have C6 := hid (dnum_is bx r6 ((w6).setCell ⟨ob, 4, none⟩ (.string x4)) D6.out)
  obtain ⟨⟨x5, r7⟩, hz6⟩ : ∃ z, rqNum r6 = z := ⟨_, rfl⟩
  have hzb : rqNum r6 = _ := hz6
  rw [hzb] at C6
  clear hzb
  have E7 : Hid (qr = rqAn_7 (1 + xk) x1 x2 x3 x4 x5 r7) := by show _ = _; rw [E6.out]; unfold rqAn_6; rw [hz6]
  clear E6
  go_wp2_with fail
  go_at_call 25
  refine C6.out.mono ?_
  rintro e w7 ⟨rfl, p, b⟩
  have D7 := hid p
  have b2 := b
  have B7 := hid (B6.out.trans b2)
  have R7 := hid (R6.out.beside b2 nR)
  have A7 := hid (A6.out.beside b2 nA)
  clear p b b2 hz6 D6 B6 R6 A6 C6
  have s_A5 := A7.out.cell 5
  have f_A5 := A7.out.soft 5
  replace s_A5 : (w7).cell? ⟨ob, 5, none⟩ = some (.int .i64 0) := s_A5
  have D7n := hid (D7.out.other (g := ob) (i := 5) lA (.int .i64 x5))
  have B7n := hid (B7.out.setNew (p := ⟨ob, 5, none⟩) mA (.int .i64 x5))
  have R7n := hid (R7.out.other (i := 5) (u := .int .i64 x5) nRA)
  have A7n : Hid (BoxW ((w7).setCell ⟨ob, 5, none⟩ (.int .i64 x5)) ob 68 #[.int .i64 (1 + xk), .int .i64 x1, .int .i64 x2, .int .i64 x3, .string x4, .int .i64 x5, .slice none 0 0, .bool false, .int .i64 0]) := A7.out.set (i := 5) (u := .int .i64 x5) rfl
  clear D7 B7 R7 A7
  have D7 := D7n
  have B7 := B7n
  have R7 := R7n
  have A7 := A7n
  clear D7n B7n R7n A7n
  have AW7 := hid (below_box ((w7).setCell ⟨ob, 5, none⟩ (.int .i64 x5)) (.cells ([wReal, wPlain].map Value.string).toArray 9))
  have hsz7 : ((w7).setCell ⟨ob, 5, none⟩ (.int .i64 x5)).heap.size = w7.heap.size := by simp [World.setCell]
  have WW7 : Hid (WordsAt (((w7).setCell ⟨ob, 5, none⟩ (.int .i64 x5)).alloc (.cells ([wReal, wPlain].map Value.string).toArray 9)) w7.heap.size [wReal, wPlain]) := by rw [← hsz7]; exact words_is _ _
  clear hsz7
  have C7 := hid (done_is bx w7.heap.size 2 [wReal, wPlain] r7 _ (D7.out.later AW7.out) WW7.out (by decide))
  obtain ⟨⟨y7, r8⟩, hz7⟩ : ∃ z, rqOne [wReal, wPlain] 0 r7 = z := ⟨_, rfl⟩
  have hzb : rqOne [wReal, wPlain] 0 r7 = _ := hz7
  rw [hzb] at C7
  clear hzb
  have E8 : Hid (qr = rqAn_8 (1 + xk) x1 x2 x3 x4 x5 (y7 == 0) r8) := by show _ = _; rw [E7.out]; unfold rqAn_7 rqEither; rw [hz7]
  clear E7
  go_wp2_with fail
  go_at_call 27
  refine C7.out.mono ?_
  rintro e w8 ⟨rfl, p, b⟩
  have D8 := hid p
  have b2 := ((Beside.of_below AW7.out).trans b)
  have B8 := hid (B7.out.trans b2)
  have R8 := hid (R7.out.beside b2 nR)
  have A8 := hid (A7.out.beside b2 nA)
  clear p b b2 hz7 D7 B7 R7 A7 AW7 WW7 C7
  have s_A7 := A8.out.cell 7
  have f_A7 := A8.out.soft 7
  replace s_A7 : (w8).cell? ⟨ob, 7, none⟩ = some (.bool false) := s_A7
  have D8n := hid (D8.out.other (g := ob) (i := 7) lA (.bool (y7 == 0)))
  have B8n := hid (B8.out.setNew (p := ⟨ob, 7, none⟩) mA (.bool (y7 == 0)))
  have R8n := hid (R8.out.other (i := 7) (u := .bool (y7 == 0)) nRA)
  have A8n : Hid (BoxW ((w8).setCell ⟨ob, 7, none⟩ (.bool (y7 == 0))) ob 68 #[.int .i64 (1 + xk), .int .i64 x1, .int .i64 x2, .int .i64 x3, .string x4, .int .i64 x5, .slice none 0 0, .bool (y7 == 0), .int .i64 0]) := A8.out.set (i := 7) (u := .bool (y7 == 0)) rfl
  clear D8 B8 R8 A8
  have D8 := D8n
  have B8 := B8n
  have R8 := R8n
  have A8 := A8n
  clear D8n B8n R8n A8n
  have C8 := hid (dlevel_is bx r8 ((w8).setCell ⟨ob, 7, none⟩ (.bool (y7 == 0))) D8.out)
  obtain ⟨⟨x8, r9⟩, hz8⟩ : ∃ z, rqOne levelWs 0 r8 = z := ⟨_, rfl⟩
  have hzb : rqOne levelWs 0 r8 = _ := hz8
  rw [hzb] at C8
  clear hzb
  have E9 : Hid (qr = rqAn_9 (1 + xk) x1 x2 x3 x4 x5 (y7 == 0) x8 r9) := by show _ = _; rw [E8.out]; unfold rqAn_8; rw [hz8]
  clear E8
  go_wp2_with fail
  go_at_call 29
  refine C8.out.mono ?_
  rintro e w9 ⟨rfl, p, b⟩
  have D9 := hid p
  have b2 := b
  have B9 := hid (B8.out.trans b2)
  have R9 := hid (R8.out.beside b2 nR)
  have A9 := hid (A8.out.beside b2 nA)
  clear p b b2 hz8 D8 B8 R8 A8 C8
  have s_A8 := A9.out.cell 8
  have f_A8 := A9.out.soft 8
  replace s_A8 : (w9).cell? ⟨ob, 8, none⟩ = some (.int .i64 0) := s_A8
  have D9n := hid (D9.out.other (g := ob) (i := 8) lA (.int .i64 x8))
  have B9n := hid (B9.out.setNew (p := ⟨ob, 8, none⟩) mA (.int .i64 x8))
  have R9n := hid (R9.out.other (i := 8) (u := .int .i64 x8) nRA)
  have A9n : Hid (BoxW ((w9).setCell ⟨ob, 8, none⟩ (.int .i64 x8)) ob 68 #[.int .i64 (1 + xk), .int .i64 x1, .int .i64 x2, .int .i64 x3, .string x4, .int .i64 x5, .slice none 0 0, .bool (y7 == 0), .int .i64 x8]) := A9.out.set (i := 8) (u := .int .i64 x8) rfl
  clear D9 B9 R9 A9
  have D9 := D9n
  have B9 := B9n
  have R9 := R9n
  have A9 := A9n
  clear D9n B9n R9n A9n
  obtain ⟨BS, hBS⟩ : ∃ BS, ((w9).setCell ⟨ob, 8, none⟩ (.int .i64 x8)).heap.size = BS := ⟨_, rfl⟩
  have hoB : ob < BS := by rw [← hBS]; exact A9.out.lt
  have hrB : rv < BS := by rw [← hBS]; exact R9.out.lt
  have hxB : bx < BS := by rw [← hBS]; exact D9.out.lt
  have hwB : w.heap.size ≤ BS := by rw [← hBS]; exact B9.out.size
  have SZ : Hid (BS ≤ ((w9).setCell ⟨ob, 8, none⟩ (.int .i64 x8)).heap.size) := by rw [← hBS]; exact Nat.le_refl _
  have FW : Hid (r9.1.length ≤ 20000) := D9.out.few
  clear hBS
  obtain ⟨zd, hzd⟩ : ∃ z, rqDeps (r9.1.length + 1) r9 [] = z := ⟨_, rfl⟩
  have EL : Hid (qr = ((1 + xk, x1, x2, x3, x4, x5, zd.1, (y7 == 0), x8), zd.2)) := by show _ = _; rw [E9.out]; unfold rqAn_9; rw [hzd]
  have EZ : Hid (zd = rqDeps (r9.1.length + 1) r9 []) := hzd.symm
  clear hzd E9
  go_wp2_with fail
  go_loopg [] r9.1.length (fun gm wr => ∃ (r : Qr) (xs : List MW) (ta : Option Addr) (tc : Nat) (rows : List (List Value)) (f : Nat), r.1.length ≤ gm ∧ Aside (DQ bx r wr ∧ Beside bx w wr ∧ BoxW wr ob 68 #[.int .i64 (1 + xk), .int .i64 x1, .int .i64 x2, .int .i64 x3, .string x4, .int .i64 x5, .slice ta xs.length tc, .bool (y7 == 0), .int .i64 x8] ∧ BoxW wr rv 68 #[.int .i64 0, .int .i64 0, .int .i64 0, .int .i64 0, .string ⟨#[]⟩, .int .i64 0, .slice none 0 0, .bool false, .int .i64 0] ∧ OutInv 108 8 WhyRow BS wr (.slice ta xs.length tc) xs.length rows xs ∧ BS ≤ wr.heap.size) ∧ Aside (zd = rqDeps f r xs ∧ r.1.length < f ∧ xs.length + r.1.length ≤ 20000))
  case atStart => exact ⟨r9, [], none, 0, [], r9.1.length + 1, Nat.le_refl _, ⟨D9.out, B9.out, A9.out, R9.out, OutInv.nil _ _ _ _ _, SZ.out⟩, ⟨EZ.out, by omega, by simpa using FW.out⟩⟩
  case round =>
    clear D9 B9 A9 R9 SZ FW EZ F0
    obtain ⟨r10, xs, ta, tc, rows, f, hg, HX, HY⟩ := hrel
    have S := hid (dis_is bx 3 ⟨#[91]⟩ r10 wr HX.out.1)
    cases hs : rqIs r10 3 mFrom with
    | true =>
      have hs2 : rqIs r10 3 ⟨#[91]⟩ = true := hs
      rw [hs2] at S
      obtain ⟨f, rfl⟩ : ∃ f0, f = f0 + 1 := ⟨f - 1, by have := HY.out.2.1; omega⟩
      have hlt2 := rqDep_lt hs
      obtain ⟨qd, hqd⟩ : ∃ qd, rqDep r10 = qd := ⟨_, rfl⟩
      rw [hqd] at hlt2
      have HZ : Hid (zd = rqDeps f qd.2 (xs ++ [qd.1])) := by show _ = _; rw [HY.out.1, ← hqd]; exact if_pos hs
      have E10 : Hid (qd = rqDep_1 (rqTake r10 3 mFrom).2) := by rw [← hqd]; exact rfl
      have HLT := hid hlt2
      clear hqd hs hs2 hlt2
      go_wp2_with (go_at_call 22; refine S.out.mono ?_; rintro e w3 ⟨rfl, rfl⟩)
      clear S
      have D10 := hid HX.out.1
      have B10 : Hid (Beside bx wr wr) := Beside.refl _ _
      have A10 := hid HX.out.2.2.1
      have R10 := hid HX.out.2.2.2.1
      have C10 := hid (dtake_is bx 3 ⟨#[91]⟩ r10 (wr) D10.out)
      obtain ⟨⟨tk10, r11⟩, hz10⟩ : ∃ z, rqTake r10 3 mFrom = z := ⟨_, rfl⟩
      have hzb : rqTake r10 3 ⟨#[91]⟩ = _ := hz10
      rw [hzb] at C10
      clear hzb
      have E11 : Hid (qd = rqDep_1 r11) := by show _ = _; rw [E10.out]; rw [hz10]
      clear E10
      go_wp2_with fail
      go_at_call 23
      refine C10.out.mono ?_
      rintro e w11 ⟨rfl, p, b⟩
      have D11 := hid p
      have b2 := b
      have B11 := hid (B10.out.trans b2)
      have R11 := hid (R10.out.beside b2 nR)
      have A11 := hid (A10.out.beside b2 nA)
      clear p b b2 hz10 D10 B10 R10 A10 C10
      have C11 := hid (dnum_is bx r11 (w11) D11.out)
      obtain ⟨⟨df, r12⟩, hz11⟩ : ∃ z, rqNum r11 = z := ⟨_, rfl⟩
      have hzb : rqNum r11 = _ := hz11
      rw [hzb] at C11
      clear hzb
      have E12 : Hid (qd = rqDep_2 df r12) := by show _ = _; rw [E11.out]; unfold rqDep_1; rw [hz11]
      clear E11
      go_wp2_with fail
      go_at_call 25
      refine C11.out.mono ?_
      rintro e w12 ⟨rfl, p, b⟩
      have D12 := hid p
      have b2 := b
      have B12 := hid (B11.out.trans b2)
      have R12 := hid (R11.out.beside b2 nR)
      have A12 := hid (A11.out.beside b2 nA)
      clear p b b2 hz11 D11 B11 R11 A11 C11
      obtain ⟨wb, hwb⟩ : ∃ wb, (w12).heap.size = wb := ⟨_, rfl⟩
      obtain ⟨v12, hv12⟩ : ∃ v, (w12).alloc (.cells #[.int .i64 df, .int .i64 0, .int .i64 0, .string ⟨#[]⟩, .int .i64 0, .int .i64 0, .bool false, .bool false] 108) = v := ⟨_, rfl⟩
      have AB := below_box (w12) (.cells #[.int .i64 df, .int .i64 0, .int .i64 0, .string ⟨#[]⟩, .int .i64 0, .int .i64 0, .bool false, .bool false] 108)
      rw [hv12] at AB
      have W12 : Hid (BoxW v12 wb 108 #[.int .i64 df, .int .i64 0, .int .i64 0, .string ⟨#[]⟩, .int .i64 0, .int .i64 0, .bool false, .bool false]) := by rw [← hv12, ← hwb]; exact box_new _ _ _
      have lW : bx < wb := by rw [← hwb]; exact D12.out.lt
      have mW : wr.heap.size ≤ wb := by rw [← hwb]; exact B12.out.size
      have nW : wb ≠ bx := by omega
      have nRW : rv ≠ wb := by have := R12.out.lt; omega
      have nWR : wb ≠ rv := Ne.symm nRW
      have R12n := hid (R12.out.later AB)
      have nAW : ob ≠ wb := by have := A12.out.lt; omega
      have nWA : wb ≠ ob := Ne.symm nAW
      have A12n := hid (A12.out.later AB)
      have D12n := hid (D12.out.later AB)
      have B12n := hid (B12.out.trans (Beside.of_below AB))
      clear AB D12 B12 R12 A12
      have D12 := D12n
      have B12 := B12n
      have R12 := R12n
      have A12 := A12n
      clear D12n B12n R12n A12n
      have hV12 := hid hv12
      clear hv12
      have hsV : v12.heap.size = wb + 1 := by rw [← hV12.out, ← hwb]; simp
      obtain ⟨wi, hwi⟩ : ∃ wi, (v12).alloc (.cells #[.int .i64 1, .int .i64 2, .int .i64 4, .int .i64 8] 3) = wi := ⟨_, rfl⟩
      have AI := below_box (v12) (.cells #[.int .i64 1, .int .i64 2, .int .i64 4, .int .i64 8] 3)
      rw [hwi] at AI
      have IB : Hid (BoxW wi (wb + 1) 3 #[.int .i64 1, .int .i64 2, .int .i64 4, .int .i64 8]) := by rw [← hwi, ← hsV]; exact box_new _ _ _
      have hsI : wi.heap.size = wb + 1 + 1 := by rw [← hwi]; simp [hsV]
      have AW := below_box wi (.cells (rlabelWs.map Value.string).toArray 9)
      have WW : Hid (WordsAt (wi.alloc (.cells (rlabelWs.map Value.string).toArray 9)) (wb + 1 + 1) rlabelWs) := by rw [← hsI]; exact words_is _ _
      have hnI : wb + 1 ≠ bx := by omega
      have C12 := hid (done_is bx (wb + 1 + 1) 4 rlabelWs r12 _ ((D12.out.later AI).later AW) WW.out (by decide))
      obtain ⟨⟨dl, r13⟩, hz12⟩ : ∃ z, rqOne rlabelWs 0 r12 = z := ⟨_, rfl⟩
      rw [hz12] at C12
      obtain ⟨lj, hlj, hl4⟩ := rqOne_lt rlabelWs 0 r12
      rw [hz12] at hlj
      have hlj2 : dl = (lj : Int) := hlj
      subst hlj2
      have hl4b : lj < 4 := by have hl : rlabelWs.length = 4 := rfl; rw [hl] at hl4; omega
      have E13 : Hid (qd = rqDep_3 df (labN lj) r13) := by show _ = _; rw [E12.out]; unfold rqDep_2 rqLabel; rw [hz12]
      clear E12 hz12 hlj hl4
      have B12i := hid ((B12.out.trans (Beside.of_below AI)).trans (Beside.of_below AW))
      have R12i := hid ((R12.out.later AI).later AW)
      have A12i := hid ((A12.out.later AI).later AW)
      have W12i := hid ((W12.out.later AI).later AW)
      have IBi := hid (IB.out.later AW)
      have HWI := hid hwi
      clear hwi hsI hsV AI AW IB
      go_wp2_with fail
      rw [hV12.out, HWI.out]
      go_at_call 27
      refine C12.out.mono ?_
      rintro e w13 ⟨rfl, p, b⟩
      have D13 := hid p
      have B13 := hid (B12i.out.trans b)
      have R13 := hid (R12i.out.beside b nR)
      have A13 := hid (A12i.out.beside b nA)
      have W13 := hid (W12i.out.beside b nW)
      have IB2 := IBi.out.beside b hnI
      obtain ⟨gi, hgi⟩ : ∃ gi, wb + 1 = gi := ⟨_, rfl⟩
      rw [hgi] at IB2
      have hlab : w13.cell? ⟨gi, lj, none⟩ = some (.int .i64 (labN lj)) := by rw [IB2.cell lj]; rcases (by omega : lj = 0 ∨ lj = 1 ∨ lj = 2 ∨ lj = 3) with rfl | rfl | rfl | rfl <;> rfl
      have hl0 : (0 : Int) ≤ (lj : Int) := by omega
      have hl5 : (lj : Int) < 4 := by omega
      clear p b D12 B12 B12i C12 WW HWI IBi IB2 hV12 hwb R12 R12i A12 A12i W12 W12i
      obtain ⟨lbv, hlbv⟩ : ∃ lbv, labN lj = lbv := ⟨_, rfl⟩
      rw [hlbv] at hlab E13
      try rw [hgi]
      have s_W2 := W13.out.cell 2
      have f_W2 := W13.out.soft 2
      replace s_W2 : (w13).cell? ⟨wb, 2, none⟩ = some (.int .i64 0) := s_W2
      have D13n := hid (D13.out.other (g := wb) (i := 2) lW (.int .i64 lbv))
      have B13n := hid (B13.out.setNew (p := ⟨wb, 2, none⟩) mW (.int .i64 lbv))
      have R13n := hid (R13.out.other (i := 2) (u := .int .i64 lbv) nRW)
      have A13n := hid (A13.out.other (i := 2) (u := .int .i64 lbv) nAW)
      have W13n : Hid (BoxW ((w13).setCell ⟨wb, 2, none⟩ (.int .i64 lbv)) wb 108 #[.int .i64 df, .int .i64 0, .int .i64 lbv, .string ⟨#[]⟩, .int .i64 0, .int .i64 0, .bool false, .bool false]) := W13.out.set (i := 2) (u := .int .i64 lbv) rfl
      clear D13 B13 R13 A13 W13
      have D13 := D13n
      have B13 := B13n
      have R13 := R13n
      have A13 := A13n
      have W13 := W13n
      clear D13n B13n R13n A13n W13n
      have C13 := hid (dnum_is bx r13 ((w13).setCell ⟨wb, 2, none⟩ (.int .i64 lbv)) D13.out)
      obtain ⟨⟨dt, r14⟩, hz13⟩ : ∃ z, rqNum r13 = z := ⟨_, rfl⟩
      have hzb : rqNum r13 = _ := hz13
      rw [hzb] at C13
      clear hzb
      have E14 : Hid (qd = rqDep_4 df lbv dt r14) := by show _ = _; rw [E13.out]; unfold rqDep_3; rw [hz13]
      clear E13
      go_wp2_with fail
      go_at_call 25
      refine C13.out.mono ?_
      rintro e w14 ⟨rfl, p, b⟩
      have D14 := hid p
      have b2 := b
      have B14 := hid (B13.out.trans b2)
      have R14 := hid (R13.out.beside b2 nR)
      have A14 := hid (A13.out.beside b2 nA)
      have W14 := hid (W13.out.beside b2 nW)
      clear p b b2 hz13 D13 B13 R13 A13 W13 C13
      clear hlab hgi hl0 hl5
      have s_W1 := W14.out.cell 1
      have f_W1 := W14.out.soft 1
      replace s_W1 : (w14).cell? ⟨wb, 1, none⟩ = some (.int .i64 0) := s_W1
      have D14n := hid (D14.out.other (g := wb) (i := 1) lW (.int .i64 dt))
      have B14n := hid (B14.out.setNew (p := ⟨wb, 1, none⟩) mW (.int .i64 dt))
      have R14n := hid (R14.out.other (i := 1) (u := .int .i64 dt) nRW)
      have A14n := hid (A14.out.other (i := 1) (u := .int .i64 dt) nAW)
      have W14n : Hid (BoxW ((w14).setCell ⟨wb, 1, none⟩ (.int .i64 dt)) wb 108 #[.int .i64 df, .int .i64 dt, .int .i64 lbv, .string ⟨#[]⟩, .int .i64 0, .int .i64 0, .bool false, .bool false]) := W14.out.set (i := 1) (u := .int .i64 dt) rfl
      clear D14 B14 R14 A14 W14
      have D14 := D14n
      have B14 := B14n
      have R14 := R14n
      have A14 := A14n
      have W14 := W14n
      clear D14n B14n R14n A14n W14n
      have C14 := hid (dkey_is bx r14 ((w14).setCell ⟨wb, 1, none⟩ (.int .i64 dt)) D14.out)
      obtain ⟨⟨dk, r15⟩, hz14⟩ : ∃ z, rqKey r14 = z := ⟨_, rfl⟩
      have hzb : rqKey r14 = _ := hz14
      rw [hzb] at C14
      clear hzb
      have E15 : Hid (qd = rqDep_5 df lbv dt dk r15) := by show _ = _; rw [E14.out]; unfold rqDep_4; rw [hz14]
      clear E14
      go_wp2_with fail
      go_at_call 74
      refine C14.out.mono ?_
      rintro e w15 ⟨rfl, p, b⟩
      have D15 := hid p
      have b2 := b
      have B15 := hid (B14.out.trans b2)
      have R15 := hid (R14.out.beside b2 nR)
      have A15 := hid (A14.out.beside b2 nA)
      have W15 := hid (W14.out.beside b2 nW)
      clear p b b2 hz14 D14 B14 R14 A14 W14 C14
      have s_W3 := W15.out.cell 3
      have f_W3 := W15.out.soft 3
      replace s_W3 : (w15).cell? ⟨wb, 3, none⟩ = some (.string ⟨#[]⟩) := s_W3
      have D15n := hid (D15.out.other (g := wb) (i := 3) lW (.string dk))
      have B15n := hid (B15.out.setNew (p := ⟨wb, 3, none⟩) mW (.string dk))
      have R15n := hid (R15.out.other (i := 3) (u := .string dk) nRW)
      have A15n := hid (A15.out.other (i := 3) (u := .string dk) nAW)
      have W15n : Hid (BoxW ((w15).setCell ⟨wb, 3, none⟩ (.string dk)) wb 108 #[.int .i64 df, .int .i64 dt, .int .i64 lbv, .string dk, .int .i64 0, .int .i64 0, .bool false, .bool false]) := W15.out.set (i := 3) (u := .string dk) rfl
      clear D15 B15 R15 A15 W15
      have D15 := D15n
      have B15 := B15n
      have R15 := R15n
      have A15 := A15n
      have W15 := W15n
      clear D15n B15n R15n A15n W15n
      have C15 := hid (dnum_is bx r15 ((w15).setCell ⟨wb, 3, none⟩ (.string dk)) D15.out)
      obtain ⟨⟨dx, r16⟩, hz15⟩ : ∃ z, rqNum r15 = z := ⟨_, rfl⟩
      have hzb : rqNum r15 = _ := hz15
      rw [hzb] at C15
      clear hzb
      have E16 : Hid (qd = rqDep_6 df lbv dt dk dx r16) := by show _ = _; rw [E15.out]; unfold rqDep_5; rw [hz15]
      clear E15
      go_wp2_with fail
      go_at_call 25
      refine C15.out.mono ?_
      rintro e w16 ⟨rfl, p, b⟩
      have D16 := hid p
      have b2 := b
      have B16 := hid (B15.out.trans b2)
      have R16 := hid (R15.out.beside b2 nR)
      have A16 := hid (A15.out.beside b2 nA)
      have W16 := hid (W15.out.beside b2 nW)
      clear p b b2 hz15 D15 B15 R15 A15 W15 C15
      have C16 := hid (dnum_is bx r16 (w16) D16.out)
      obtain ⟨⟨dy, r17⟩, hz16⟩ : ∃ z, rqNum r16 = z := ⟨_, rfl⟩
      have hzb : rqNum r16 = _ := hz16
      rw [hzb] at C16
      clear hzb
      have E17 : Hid (qd = rqDep_7 df lbv dt dk dx dy r17) := by show _ = _; rw [E16.out]; unfold rqDep_6; rw [hz16]
      clear E16
      go_wp2_with fail
      go_at_call 25
      refine C16.out.mono ?_
      rintro e w17 ⟨rfl, p, b⟩
      have D17 := hid p
      have b2 := b
      have B17 := hid (B16.out.trans b2)
      have R17 := hid (R16.out.beside b2 nR)
      have A17 := hid (A16.out.beside b2 nA)
      have W17 := hid (W16.out.beside b2 nW)
      clear p b b2 hz16 D16 B16 R16 A16 W16 C16
      have s_W4 := W17.out.cell 4
      have f_W4 := W17.out.soft 4
      replace s_W4 : (w17).cell? ⟨wb, 4, none⟩ = some (.int .i64 0) := s_W4
      have D17n := hid (D17.out.other (g := wb) (i := 4) lW (.int .i64 dx))
      have B17n := hid (B17.out.setNew (p := ⟨wb, 4, none⟩) mW (.int .i64 dx))
      have R17n := hid (R17.out.other (i := 4) (u := .int .i64 dx) nRW)
      have A17n := hid (A17.out.other (i := 4) (u := .int .i64 dx) nAW)
      have W17n : Hid (BoxW ((w17).setCell ⟨wb, 4, none⟩ (.int .i64 dx)) wb 108 #[.int .i64 df, .int .i64 dt, .int .i64 lbv, .string dk, .int .i64 dx, .int .i64 0, .bool false, .bool false]) := W17.out.set (i := 4) (u := .int .i64 dx) rfl
      clear D17 B17 R17 A17 W17
      have D17 := D17n
      have B17 := B17n
      have R17 := R17n
      have A17 := A17n
      have W17 := W17n
      clear D17n B17n R17n A17n W17n
      have s_W5 := W17.out.cell 5
      have f_W5 := W17.out.soft 5
      replace s_W5 : ((w17).setCell ⟨wb, 4, none⟩ (.int .i64 dx)).cell? ⟨wb, 5, none⟩ = some (.int .i64 0) := s_W5
      have D17n := hid (D17.out.other (g := wb) (i := 5) lW (.int .i64 dy))
      have B17n := hid (B17.out.setNew (p := ⟨wb, 5, none⟩) mW (.int .i64 dy))
      have R17n := hid (R17.out.other (i := 5) (u := .int .i64 dy) nRW)
      have A17n := hid (A17.out.other (i := 5) (u := .int .i64 dy) nAW)
      have W17n : Hid (BoxW (((w17).setCell ⟨wb, 4, none⟩ (.int .i64 dx)).setCell ⟨wb, 5, none⟩ (.int .i64 dy)) wb 108 #[.int .i64 df, .int .i64 dt, .int .i64 lbv, .string dk, .int .i64 dx, .int .i64 dy, .bool false, .bool false]) := W17.out.set (i := 5) (u := .int .i64 dy) rfl
      clear D17 B17 R17 A17 W17
      have D17 := D17n
      have B17 := B17n
      have R17 := R17n
      have A17 := A17n
      have W17 := W17n
      clear D17n B17n R17n A17n W17n
      have AW17 := hid (below_box (((w17).setCell ⟨wb, 4, none⟩ (.int .i64 dx)).setCell ⟨wb, 5, none⟩ (.int .i64 dy)) (.cells ([wNil, wValue].map Value.string).toArray 9))
      have hsz17 : (((w17).setCell ⟨wb, 4, none⟩ (.int .i64 dx)).setCell ⟨wb, 5, none⟩ (.int .i64 dy)).heap.size = w17.heap.size := by simp [World.setCell]
      have WW17 : Hid (WordsAt ((((w17).setCell ⟨wb, 4, none⟩ (.int .i64 dx)).setCell ⟨wb, 5, none⟩ (.int .i64 dy)).alloc (.cells ([wNil, wValue].map Value.string).toArray 9)) w17.heap.size [wNil, wValue]) := by rw [← hsz17]; exact words_is _ _
      clear hsz17
      have C17 := hid (done_is bx w17.heap.size 2 [wNil, wValue] r17 _ (D17.out.later AW17.out) WW17.out (by decide))
      obtain ⟨⟨dn, r18⟩, hz17⟩ : ∃ z, rqOne [wNil, wValue] 0 r17 = z := ⟨_, rfl⟩
      have hzb : rqOne [wNil, wValue] 0 r17 = _ := hz17
      rw [hzb] at C17
      clear hzb
      have E18 : Hid (qd = rqDep_8 df lbv dt dk dx dy (dn == 0) r18) := by show _ = _; rw [E17.out]; unfold rqDep_7 rqEither; rw [hz17]
      clear E17
      go_wp2_with fail
      go_at_call 27
      refine C17.out.mono ?_
      rintro e w18 ⟨rfl, p, b⟩
      have D18 := hid p
      have b2 := ((Beside.of_below AW17.out).trans b)
      have B18 := hid (B17.out.trans b2)
      have R18 := hid (R17.out.beside b2 nR)
      have A18 := hid (A17.out.beside b2 nA)
      have W18 := hid (W17.out.beside b2 nW)
      clear p b b2 hz17 D17 B17 R17 A17 W17 AW17 WW17 C17
      have s_W6 := W18.out.cell 6
      have f_W6 := W18.out.soft 6
      replace s_W6 : (w18).cell? ⟨wb, 6, none⟩ = some (.bool false) := s_W6
      have D18n := hid (D18.out.other (g := wb) (i := 6) lW (.bool (dn == 0)))
      have B18n := hid (B18.out.setNew (p := ⟨wb, 6, none⟩) mW (.bool (dn == 0)))
      have R18n := hid (R18.out.other (i := 6) (u := .bool (dn == 0)) nRW)
      have A18n := hid (A18.out.other (i := 6) (u := .bool (dn == 0)) nAW)
      have W18n : Hid (BoxW ((w18).setCell ⟨wb, 6, none⟩ (.bool (dn == 0))) wb 108 #[.int .i64 df, .int .i64 dt, .int .i64 lbv, .string dk, .int .i64 dx, .int .i64 dy, .bool (dn == 0), .bool false]) := W18.out.set (i := 6) (u := .bool (dn == 0)) rfl
      clear D18 B18 R18 A18 W18
      have D18 := D18n
      have B18 := B18n
      have R18 := R18n
      have A18 := A18n
      have W18 := W18n
      clear D18n B18n R18n A18n W18n
      have AW18 := hid (below_box ((w18).setCell ⟨wb, 6, none⟩ (.bool (dn == 0))) (.cells ([wCond, wSure].map Value.string).toArray 9))
      have hsz18 : ((w18).setCell ⟨wb, 6, none⟩ (.bool (dn == 0))).heap.size = w18.heap.size := by simp [World.setCell]
      have WW18 : Hid (WordsAt (((w18).setCell ⟨wb, 6, none⟩ (.bool (dn == 0))).alloc (.cells ([wCond, wSure].map Value.string).toArray 9)) w18.heap.size [wCond, wSure]) := by rw [← hsz18]; exact words_is _ _
      clear hsz18
      have C18 := hid (done_is bx w18.heap.size 2 [wCond, wSure] r18 _ (D18.out.later AW18.out) WW18.out (by decide))
      obtain ⟨⟨dc, r19⟩, hz18⟩ : ∃ z, rqOne [wCond, wSure] 0 r18 = z := ⟨_, rfl⟩
      have hzb : rqOne [wCond, wSure] 0 r18 = _ := hz18
      rw [hzb] at C18
      clear hzb
      have E19 : Hid (qd = ((df, dt, lbv, dk, dx, dy, (dn == 0), (dc == 0)), (rqTake r19 3 mTo).2)) := by show _ = _; rw [E18.out]; unfold rqDep_8 rqEither; rw [hz18]
      clear E18
      go_wp2_with fail
      go_at_call 27
      refine C18.out.mono ?_
      rintro e w19 ⟨rfl, p, b⟩
      have D19 := hid p
      have b2 := ((Beside.of_below AW18.out).trans b)
      have B19 := hid (B18.out.trans b2)
      have R19 := hid (R18.out.beside b2 nR)
      have A19 := hid (A18.out.beside b2 nA)
      have W19 := hid (W18.out.beside b2 nW)
      clear p b b2 hz18 D18 B18 R18 A18 W18 AW18 WW18 C18
      have s_W7 := W19.out.cell 7
      have f_W7 := W19.out.soft 7
      replace s_W7 : (w19).cell? ⟨wb, 7, none⟩ = some (.bool false) := s_W7
      have D19n := hid (D19.out.other (g := wb) (i := 7) lW (.bool (dc == 0)))
      have B19n := hid (B19.out.setNew (p := ⟨wb, 7, none⟩) mW (.bool (dc == 0)))
      have R19n := hid (R19.out.other (i := 7) (u := .bool (dc == 0)) nRW)
      have A19n := hid (A19.out.other (i := 7) (u := .bool (dc == 0)) nAW)
      have W19n : Hid (BoxW ((w19).setCell ⟨wb, 7, none⟩ (.bool (dc == 0))) wb 108 #[.int .i64 df, .int .i64 dt, .int .i64 lbv, .string dk, .int .i64 dx, .int .i64 dy, .bool (dn == 0), .bool (dc == 0)]) := W19.out.set (i := 7) (u := .bool (dc == 0)) rfl
      clear D19 B19 R19 A19 W19
      have D19 := D19n
      have B19 := B19n
      have R19 := R19n
      have A19 := A19n
      have W19 := W19n
      clear D19n B19n R19n A19n W19n
      have C19 := hid (dtake_is bx 3 ⟨#[93]⟩ r19 ((w19).setCell ⟨wb, 7, none⟩ (.bool (dc == 0))) D19.out)
      obtain ⟨⟨tk19, r20⟩, hz19⟩ : ∃ z, rqTake r19 3 mTo = z := ⟨_, rfl⟩
      have hzb : rqTake r19 3 ⟨#[93]⟩ = _ := hz19
      rw [hzb] at C19
      clear hzb
      have E20 : Hid (qd = ((df, dt, lbv, dk, dx, dy, (dn == 0), (dc == 0)), r20)) := by show _ = _; rw [E19.out]; rw [hz19]
      clear E19
      go_wp2_with fail
      go_at_call 23
      refine C19.out.mono ?_
      rintro e w20 ⟨rfl, p, b⟩
      have D20 := hid p
      have b2 := b
      have B20 := hid (B19.out.trans b2)
      have R20 := hid (R19.out.beside b2 nR)
      have A20 := hid (A19.out.beside b2 nA)
      have W20 := hid (W19.out.beside b2 nW)
      clear p b b2 hz19 D19 B19 R19 A19 W19 C19
      have a6 : w20.cell? ⟨ob, 6, none⟩ = some (.slice ta xs.length tc) := A20.out.cell 6
      have c0 : w20.cell? ⟨wb, 0, none⟩ = some (.int .i64 df) := W20.out.cell 0
      have c1 : w20.cell? ⟨wb, 1, none⟩ = some (.int .i64 dt) := W20.out.cell 1
      have c2 : w20.cell? ⟨wb, 2, none⟩ = some (.int .i64 lbv) := W20.out.cell 2
      have c3 : w20.cell? ⟨wb, 3, none⟩ = some (.string dk) := W20.out.cell 3
      have c4 : w20.cell? ⟨wb, 4, none⟩ = some (.int .i64 dx) := W20.out.cell 4
      have c5 : w20.cell? ⟨wb, 5, none⟩ = some (.int .i64 dy) := W20.out.cell 5
      have c6 : w20.cell? ⟨wb, 6, none⟩ = some (.bool (dn == 0)) := W20.out.cell 6
      have c7 : w20.cell? ⟨wb, 7, none⟩ = some (.bool (dc == 0)) := W20.out.cell 7
      have HSW : Hid (BS ≤ wr.heap.size) := HX.out.2.2.2.2.2
      have hsk : wr.heap.size ≤ w20.heap.size := B20.out.size
      have hsw := HSW.out
      have hcnt := HY.out.2.2
      have BAL : Hid (Beside bx wr (w20.alloc (.cells #[.int .i64 df, .int .i64 dt, .int .i64 lbv, .string dk, .int .i64 dx, .int .i64 dy, .bool (dn == 0), .bool (dc == 0)] 108))) := B20.out.trans (Beside.of_below (below_box w20 _))
      have O3 := hid (OutInv.beside whyRow_keep HX.out.2.2.2.2.1 BAL.out hxB)
      go_wp2_with (at_builtin; refine wpList_append_lies _ rfl _ _ 66 rfl BS 108 i0 _ 8 64 Tryz.underlying66 HI.out HZ0.out HZ1.out HZ2.out rfl (by decide) (.slice ta xs.length tc) xs.length rows.flatten rfl O3.out.own ⟨w20.heap.size, 0, none⟩ 1 1 [.int .i64 df, .int .i64 dt, .int .i64 lbv, .string dk, .int .i64 dx, .int .i64 dy, .bool (dn == 0), .bool (dc == 0)] rfl rfl (World.news_of_block (cs := #[.int .i64 df, .int .i64 dt, .int .i64 lbv, .string dk, .int .i64 dx, .int .i64 dy, .bool (dn == 0), .bool (dc == 0)]) (t := 108) (fr := (0, 0)) (heap_alloc_new w20 _)) (by simp [Value.oneCell']) (by decide) (by unfold maxLen; omega) (by omega) (by simp; omega) (w20.heap.size + 1) (by simp) ?_; intro g cap w4 hown hgrow hat hglt; have B34 : Below BS w20 w4 := ((Below.refl _ w20).alloc (by omega) _).grown hgrow (by simp; omega) (fun q hq => (O3.out.own.lt q hq).1); have A4 : BoxW w4 ob 68 #[.int .i64 (1 + xk), .int .i64 x1, .int .i64 x2, .int .i64 x3, .string x4, .int .i64 x5, .slice ta xs.length tc, .bool (y7 == 0), .int .i64 x8] := (B34.block ob hoB).trans A20.out; have a64 : w4.cell? ⟨ob, 6, none⟩ = some (.slice ta xs.length tc) := A4.cell 6; have f64 := A4.soft 6; have HB34 := hid B34; have HA4 := hid A4; have HOWN := hid hown; have HG := hid hgrow; have HAT := hid hat; clear B34 A4 hown hgrow hat hglt)
      have O4 := OutInv.grow whyRow_keep HX.out.2.2.2.2.1 (row := [.int .i64 df, .int .i64 dt, .int .i64 lbv, .string dk, .int .i64 dx, .int .i64 dy, .bool (dn == 0), .bool (dc == 0)]) (x := (df, dt, lbv, dk, dx, dy, (dn == 0), (dc == 0))) hsw hxB BAL.out rfl rfl HOWN.out HG.out (by simpa using HAT.out)
      go_roundg r20.1.length
      case measure => have := HLT.out; rw [E20.out] at this; have h2 : r20.1.length < r10.1.length := this; omega
      case rel =>
        have hlx : (xs ++ [(df, dt, lbv, dk, dx, dy, (dn == 0), (dc == 0))]).length = xs.length + 1 := by simp
        have hl2 : r20.1.length < r10.1.length := by have := HLT.out; rw [E20.out] at this; exact this
        have h34 := HB34.out.size
        refine ⟨r20, xs ++ [(df, dt, lbv, dk, dx, dy, (dn == 0), (dc == 0))], some ⟨g, 0, none⟩, cap, rows ++ [[.int .i64 df, .int .i64 dt, .int .i64 lbv, .string dk, .int .i64 dx, .int .i64 dy, .bool (dn == 0), .bool (dc == 0)]], f, Nat.le_refl _, ⟨?_, ?_, ?_, ?_, ?_, ?_⟩, ⟨?_, ?_, ?_⟩⟩
        · exact (D20.out.keep (HB34.out.mono hxB)).other lA _
        · exact Beside.setNew ((HX.out.2.1.trans B20.out).later (HB34.out.mono hwB)) mA _
        · rw [hlx]; exact HA4.out.set (i := 6) rfl
        · exact BoxW.other ((HB34.out.block rv hrB).trans R20.out) nRA
        · rw [hlx]; exact OutInv.beside whyRow_keep O4 ((Beside.refl ob w4).setCell (p := ⟨ob, 6, none⟩) rfl _) hoB
        · show BS ≤ (w4.setCell _ _).heap.size; simp only [World.setCell, Array.size_modify]; omega
        · rw [HZ.out, E20.out]
        · have := HY.out.2.1; omega
        · rw [hlx]; omega
    | false =>
      have hs2 : rqIs r10 3 ⟨#[91]⟩ = false := hs
      rw [hs2] at S
      obtain ⟨f, rfl⟩ : ∃ f0, f = f0 + 1 := ⟨f - 1, by have := HY.out.2.1; omega⟩
      have HZ : Hid (qr = ((1 + xk, x1, x2, x3, x4, x5, xs, (y7 == 0), x8), r10)) := by show _ = _; rw [EL.out, HY.out.1, show rqDeps (f + 1) r10 xs = (xs, r10) from if_neg (by rw [hs]; simp)]
      clear hs hs2
      have CL := hid (dline_is bx r10 wr HX.out.1)
      go_wp2_with (go_at_call 22; refine S.out.mono ?_; rintro e w3 ⟨rfl, rfl⟩)
      go_at_call 26
      refine CL.out.mono ?_
      rintro e wl ⟨rfl, p, b⟩
      have DL := hid p
      have BL := hid b
      have AL := hid (HX.out.2.2.1.beside b nA)
      have RL := hid (HX.out.2.2.2.1.beside b nR)
      have OL := hid (OutInv.beside whyRow_keep HX.out.2.2.2.2.1 b hxB)
      clear p b CL S
      have c0 : wl.cell? ⟨ob, 0, none⟩ = some (.int .i64 (1 + xk)) := AL.out.cell 0
      have q0 : wl.cell? ⟨rv, 0, none⟩ = some (.int .i64 0) := RL.out.cell 0
      have f0 := RL.out.soft 0
      have c1 : wl.cell? ⟨ob, 1, none⟩ = some (.int .i64 x1) := AL.out.cell 1
      have q1 : wl.cell? ⟨rv, 1, none⟩ = some (.int .i64 0) := RL.out.cell 1
      have f1 := RL.out.soft 1
      have c2 : wl.cell? ⟨ob, 2, none⟩ = some (.int .i64 x2) := AL.out.cell 2
      have q2 : wl.cell? ⟨rv, 2, none⟩ = some (.int .i64 0) := RL.out.cell 2
      have f2 := RL.out.soft 2
      have c3 : wl.cell? ⟨ob, 3, none⟩ = some (.int .i64 x3) := AL.out.cell 3
      have q3 : wl.cell? ⟨rv, 3, none⟩ = some (.int .i64 0) := RL.out.cell 3
      have f3 := RL.out.soft 3
      have c4 : wl.cell? ⟨ob, 4, none⟩ = some (.string x4) := AL.out.cell 4
      have q4 : wl.cell? ⟨rv, 4, none⟩ = some (.string ⟨#[]⟩) := RL.out.cell 4
      have f4 := RL.out.soft 4
      have c5 : wl.cell? ⟨ob, 5, none⟩ = some (.int .i64 x5) := AL.out.cell 5
      have q5 : wl.cell? ⟨rv, 5, none⟩ = some (.int .i64 0) := RL.out.cell 5
      have f5 := RL.out.soft 5
      have c6 : wl.cell? ⟨ob, 6, none⟩ = some (.slice ta xs.length tc) := AL.out.cell 6
      have q6 : wl.cell? ⟨rv, 6, none⟩ = some (.slice none 0 0) := RL.out.cell 6
      have f6 := RL.out.soft 6
      have c7 : wl.cell? ⟨ob, 7, none⟩ = some (.bool (y7 == 0)) := AL.out.cell 7
      have q7 : wl.cell? ⟨rv, 7, none⟩ = some (.bool false) := RL.out.cell 7
      have f7 := RL.out.soft 7
      have c8 : wl.cell? ⟨ob, 8, none⟩ = some (.int .i64 x8) := AL.out.cell 8
      have q8 : wl.cell? ⟨rv, 8, none⟩ = some (.int .i64 0) := RL.out.cell 8
      have f8 := RL.out.soft 8
      go_wp2_with fail
      refine bodyPost_ret (v := .agg #[.int .i64 (1 + xk), .int .i64 x1, .int .i64 x2, .int .i64 x3, .string x4, .int .i64 x5, .slice ta xs.length tc, .bool (y7 == 0), .int .i64 x8]) (by simp [results, Tryz.results28, go_sem, q0, q1, q2, q3, q4, q5, q6, q7, q8]) rfl ?_
      rw [HZ.out]
      refine ⟨⟨_, rfl, ta, tc, rfl, ?_⟩, ?_, ?_⟩
      · have RW := OutInv.rowsR (bytes := 64) whyRow_keep OL.out (by have := HY.out.2.2; omega)
        refine RowsIn.keep RW (by omega) (fun _ _ h => h) (T := fun b => w.heap.size ≤ b) ?_ (fun b _ hb => Nat.le_trans hwB hb)
        repeat (refine keeps_set ?_ (fun c hc e => by have : BS ≤ c := hc; omega))
        exact fun _ _ _ => rfl
      · repeat (refine DQ.other ?_ lR _)
        exact DL.out
      · repeat (refine Beside.setNew ?_ mR _)
        exact HX.out.2.1.trans BL.out
end Go.Proofs.YtkpomcimaofkkaaGreatDoor.Rp
