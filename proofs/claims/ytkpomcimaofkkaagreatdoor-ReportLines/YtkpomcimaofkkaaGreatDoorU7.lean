/-
  The code's reader of a report's text: a dependency.
  A region that draws its order, by what is known of the value of each of its operations: whatever the order, each operation comes once, behind those that it waits for.
-/
import Derived.Test.YtkpomcimaofkkaaGreatDoorU6
import Derived.WalkKit
import Derived.Orders
import Derived.RowKit
import Derived.Deep.Draws
import Derived.Test.YtkpomcimaofkkaaGreatDoorProg
namespace Go.Proofs.YtkpomcimaofkkaaGreatDoor.Rp
set_option linter.unusedVariables false
set_option linter.unusedSimpArgs false
open Go.RowKit Go.Lib

theorem Beside.later' {bx : Nat} {w W W' : World} (h : Beside bx w W) (hb : Below W.heap.size W W') : Beside bx w W' := h.later (hb.mono h.size)
set_option maxHeartbeats 8000000 in
set_option maxRecDepth 100000 in
theorem cdep_is (bx : Nat) (l0 : List MTok) (w : World) (h : PQ bx l0 w) :
    Calls Tryz.prog 97 #[.pointer (some ⟨bx, 0, none⟩)] w fun e w' => ToldQ bx w (fun x => .agg (encW x).toArray) (qDep l0) e w' := by
  have A1 := hid (below_box w (.cells #[.int .i64 0, .int .i64 0, .int .i64 0, .string ⟨#[]⟩, .int .i64 0, .int .i64 0, .bool false, .bool false] 108))
  obtain ⟨w00, hw00⟩ : ∃ w00, w.alloc (.cells #[.int .i64 0, .int .i64 0, .int .i64 0, .string ⟨#[]⟩, .int .i64 0, .int .i64 0, .bool false, .bool false] 108) = w00 := ⟨_, rfl⟩
  obtain ⟨w0, hw0⟩ : ∃ w0, w00.alloc (.cells #[.int .i64 0, .int .i64 0, .int .i64 0, .string ⟨#[]⟩, .int .i64 0, .int .i64 0, .bool false, .bool false] 108) = w0 := ⟨_, rfl⟩
  obtain ⟨rv, hrv⟩ : ∃ rv, w.heap.size = rv := ⟨_, rfl⟩
  obtain ⟨o, ho⟩ : ∃ o, w00.heap.size = o := ⟨_, rfl⟩
  have hor : o = rv + 1 := by rw [← ho, ← hw00, ← hrv]; simp
  have BL : Below w.heap.size w w0 := by rw [← hw0, ← hw00]; exact (below_box w _).trans ((below_box _ _).mono (by simp))
  have P0 := hid (h.later BL)
  have B0 : Hid (Beside bx w w0) := Beside.of_below BL
  have H0 : Hid (BoxW w0 o 108 #[.int .i64 0, .int .i64 0, .int .i64 0, .string ⟨#[]⟩, .int .i64 0, .int .i64 0, .bool false, .bool false]) := by rw [← hw0, ← ho]; exact box_new _ _ _
  have R0 : Hid (BoxW w0 rv 108 #[.int .i64 0, .int .i64 0, .int .i64 0, .string ⟨#[]⟩, .int .i64 0, .int .i64 0, .bool false, .bool false]) := by rw [← hw0, ← hrv]; exact (by rw [← hw00]; exact box_new w _ _ : BoxW w00 w.heap.size 108 #[.int .i64 0, .int .i64 0, .int .i64 0, .string ⟨#[]⟩, .int .i64 0, .int .i64 0, .bool false, .bool false]).later (below_box _ _)
  have hlt := h.lt
  have hO : bx < o := by omega
  have nO : o ≠ bx := by omega
  have nR : rv ≠ bx := by omega
  have nRO : rv ≠ o := by omega
  have hRv : bx < rv := by omega
  have nO2 : w.heap.size ≤ o := by omega
  have nR2 : w.heap.size ≤ rv := by omega
  obtain ⟨qr, hqr⟩ : ∃ qr, qDep l0 = qr := ⟨_, rfl⟩
  rw [hqr]
  have E0 := hid hqr.symm
  clear hqr
  clear h BL hor
  go_enter Tryz.func97, Tryz.ntmps97
  go_wp2_with fail
  clear hw00 hw0 hrv ho A1
  have C0 := hid (ctext_is bx ⟨#[91]⟩ l0 (w0) P0.out)
  go_wp2_with fail
  go_at_call 58
  refine C0.out.mono ?_
  rintro e w1 h0
  have h0' : ToldQ bx _ _ (qText mFrom l0) e w1 := h0
  clear h0 C0
  cases hp0 : qText mFrom l0 with
  | none =>
    rw [hp0] at h0'
    obtain ⟨rfl, b⟩ := h0'
    exact ⟨rfl, toldQ_none (E0.out.trans (andQ_none hp0)) rfl (B0.out.trans b)⟩
  | some z =>
    obtain ⟨_, l1⟩ := z
    rw [hp0] at h0'
    obtain ⟨p, rfl, b⟩ := h0'
    have E1 := hid (E0.out.trans (andQ_some hp0))
    have B1' := hid (B0.out.trans b)
    have H1' := hid (H0.out.beside b nO)
    have R1' := hid (R0.out.beside b nR)
    have P1 := hid p
    have B1 := B1'
    have H1 := H1'
    have R1 := R1'
    clear p b hp0 E0 P0 B0 H0 R0 B1' H1' R1'
    have C1 := hid (cnum_is bx l1 (w1) P1.out)
    go_wp2_with fail
    go_at_call 59
    refine C1.out.mono ?_
    rintro e w2 h1
    have h1' : ToldQ bx _ _ (qNum l1) e w2 := h1
    clear h1 C1
    cases hp1 : qNum l1 with
    | none =>
      rw [hp1] at h1'
      obtain ⟨rfl, b⟩ := h1'
      exact ⟨rfl, toldQ_none (E1.out.trans (andQ_none hp1)) rfl (B1.out.trans b)⟩
    | some z =>
      obtain ⟨x0, l2⟩ := z
      rw [hp1] at h1'
      obtain ⟨p, rfl, b⟩ := h1'
      have E2 := hid (E1.out.trans (andQ_some hp1))
      have B2' := hid (B1.out.trans b)
      have H2' := hid (H1.out.beside b nO)
      have R2' := hid (R1.out.beside b nR)
      have s1 := H2'.out.cell 0
      have f1 := H2'.out.soft 0
      replace s1 : w2.cell? ⟨o, 0, none⟩ = some (.int .i64 0) := s1
      have P2 := hid (p.other (i := 0) hO (.int .i64 x0))
      have B2 := hid (B2'.out.setNew (p := ⟨o, 0, none⟩) nO2 (.int .i64 x0))
      have H2 : Hid (BoxW (w2.setCell ⟨o, 0, none⟩ (.int .i64 x0)) o 108 #[.int .i64 x0, .int .i64 0, .int .i64 0, .string ⟨#[]⟩, .int .i64 0, .int .i64 0, .bool false, .bool false]) := H2'.out.set (i := 0) (u := .int .i64 x0) rfl
      have R2 := hid (R2'.out.other (i := 0) (u := .int .i64 x0) nRO)
      clear p b hp1 E1 P1 B1 H1 R1 B2' H2' R2'
      have KW := hid (labels_is (w2.setCell ⟨o, 0, none⟩ (.int .i64 x0)))
      go_wp2_with fail
      go_at_call 82
      refine KW.out.mono ?_
      rintro e v2 ⟨rfl, hv2⟩
      have B2w : Hid (Below (w2.setCell ⟨o, 0, none⟩ (.int .i64 x0)).heap.size (w2.setCell ⟨o, 0, none⟩ (.int .i64 x0)) v2) := by rw [← hv2]; exact below_box _ _
      have WA : Hid (WordsAt v2 (w2.setCell ⟨o, 0, none⟩ (.int .i64 x0)).heap.size labelWs) := by rw [← hv2]; exact words_is _ _
      have nW : (w2.setCell ⟨o, 0, none⟩ (.int .i64 x0)).heap.size ≠ bx := fun c => by have := P2.out.lt; omega
      have P2v := hid (P2.out.later B2w.out)
      have B2v := hid (B2.out.later' B2w.out)
      have H2v := hid (H2.out.later B2w.out)
      have R2v := hid (R2.out.later B2w.out)
      obtain ⟨gw, hgw⟩ : ∃ gw, (w2.setCell ⟨o, 0, none⟩ (.int .i64 x0)).heap.size = gw := ⟨_, rfl⟩
      rw [hgw] at WA nW
      rw [hgw]
      have C2 := hid (coneOf_is bx gw 9 labelWs l2 v2 P2v.out WA.out nW (by decide))
      clear hv2 hgw KW P2 B2 H2 R2 B2w
      go_wp2_with fail
      go_at_call 65
      refine C2.out.mono ?_
      rintro e w3 h2
      have h2' : ToldQ bx _ _ (qOne labelWs l2) e w3 := h2
      clear h2 C2
      cases hp2 : qOne labelWs l2 with
      | none =>
        rw [hp2] at h2'
        obtain ⟨rfl, b⟩ := h2'
        exact ⟨rfl, toldQ_none (E2.out.trans (andQ_none hp2)) rfl (B2v.out.trans b)⟩
      | some z =>
        obtain ⟨x2, l3⟩ := z
        rw [hp2] at h2'
        obtain ⟨p, rfl, b⟩ := h2'
        have E3 := hid (E2.out.trans (andQ_some hp2))
        have B3' := hid (B2v.out.trans b)
        have H3' := hid (H2v.out.beside b nO)
        have R3' := hid (R2v.out.beside b nR)
        have s2 := H3'.out.cell 2
        have f2 := H3'.out.soft 2
        replace s2 : w3.cell? ⟨o, 2, none⟩ = some (.int .i64 0) := s2
        have P3 := hid (p.other (i := 2) hO (.int .i64 x2))
        have B3 := hid (B3'.out.setNew (p := ⟨o, 2, none⟩) nO2 (.int .i64 x2))
        have H3 : Hid (BoxW (w3.setCell ⟨o, 2, none⟩ (.int .i64 x2)) o 108 #[.int .i64 x0, .int .i64 0, .int .i64 x2, .string ⟨#[]⟩, .int .i64 0, .int .i64 0, .bool false, .bool false]) := H3'.out.set (i := 2) (u := .int .i64 x2) rfl
        have R3 := hid (R3'.out.other (i := 2) (u := .int .i64 x2) nRO)
        clear p b hp2 E2 P2v B2v H2v R2v B3' H3' R3' WA nW
        have C3 := hid (cnum_is bx l3 (w3.setCell ⟨o, 2, none⟩ (.int .i64 x2)) P3.out)
        go_wp2_with fail
        go_at_call 59
        refine C3.out.mono ?_
        rintro e w4 h3
        have h3' : ToldQ bx _ _ (qNum l3) e w4 := h3
        clear h3 C3
        cases hp3 : qNum l3 with
        | none =>
          rw [hp3] at h3'
          obtain ⟨rfl, b⟩ := h3'
          exact ⟨rfl, toldQ_none (E3.out.trans (andQ_none hp3)) rfl (B3.out.trans b)⟩
        | some z =>
          obtain ⟨x1, l4⟩ := z
          rw [hp3] at h3'
          obtain ⟨p, rfl, b⟩ := h3'
          have E4 := hid (E3.out.trans (andQ_some hp3))
          have B4' := hid (B3.out.trans b)
          have H4' := hid (H3.out.beside b nO)
          have R4' := hid (R3.out.beside b nR)
          have s3 := H4'.out.cell 1
          have f3 := H4'.out.soft 1
          replace s3 : w4.cell? ⟨o, 1, none⟩ = some (.int .i64 0) := s3
          have P4 := hid (p.other (i := 1) hO (.int .i64 x1))
          have B4 := hid (B4'.out.setNew (p := ⟨o, 1, none⟩) nO2 (.int .i64 x1))
          have H4 : Hid (BoxW (w4.setCell ⟨o, 1, none⟩ (.int .i64 x1)) o 108 #[.int .i64 x0, .int .i64 x1, .int .i64 x2, .string ⟨#[]⟩, .int .i64 0, .int .i64 0, .bool false, .bool false]) := H4'.out.set (i := 1) (u := .int .i64 x1) rfl
          have R4 := hid (R4'.out.other (i := 1) (u := .int .i64 x1) nRO)
          clear p b hp3 E3 P3 B3 H3 R3 B4' H4' R4'
          have C4 := hid (ckey_is bx l4 (w4.setCell ⟨o, 1, none⟩ (.int .i64 x1)) P4.out)
          go_wp2_with fail
          go_at_call 96
          refine C4.out.mono ?_
          rintro e w5 h4
          have h4' : ToldQ bx _ _ (qKey l4) e w5 := h4
          clear h4 C4
          cases hp4 : qKey l4 with
          | none =>
            rw [hp4] at h4'
            obtain ⟨rfl, b⟩ := h4'
            exact ⟨rfl, toldQ_none (E4.out.trans (andQ_none hp4)) rfl (B4.out.trans b)⟩
          | some z =>
            obtain ⟨x3, l5⟩ := z
            rw [hp4] at h4'
            obtain ⟨p, rfl, b⟩ := h4'
            have E5 := hid (E4.out.trans (andQ_some hp4))
            have B5' := hid (B4.out.trans b)
            have H5' := hid (H4.out.beside b nO)
            have R5' := hid (R4.out.beside b nR)
            have s4 := H5'.out.cell 3
            have f4 := H5'.out.soft 3
            replace s4 : w5.cell? ⟨o, 3, none⟩ = some (.string ⟨#[]⟩) := s4
            have P5 := hid (p.other (i := 3) hO (.string x3))
            have B5 := hid (B5'.out.setNew (p := ⟨o, 3, none⟩) nO2 (.string x3))
            have H5 : Hid (BoxW (w5.setCell ⟨o, 3, none⟩ (.string x3)) o 108 #[.int .i64 x0, .int .i64 x1, .int .i64 x2, .string x3, .int .i64 0, .int .i64 0, .bool false, .bool false]) := H5'.out.set (i := 3) (u := .string x3) rfl
            have R5 := hid (R5'.out.other (i := 3) (u := .string x3) nRO)
            clear p b hp4 E4 P4 B4 H4 R4 B5' H5' R5'
            have C5 := hid (cnum_is bx l5 (w5.setCell ⟨o, 3, none⟩ (.string x3)) P5.out)
            go_wp2_with fail
            go_at_call 59
            refine C5.out.mono ?_
            rintro e w6 h5
            have h5' : ToldQ bx _ _ (qNum l5) e w6 := h5
            clear h5 C5
            cases hp5 : qNum l5 with
            | none =>
              rw [hp5] at h5'
              obtain ⟨rfl, b⟩ := h5'
              exact ⟨rfl, toldQ_none (E5.out.trans (andQ_none hp5)) rfl (B5.out.trans b)⟩
            | some z =>
              obtain ⟨x4, l6⟩ := z
              rw [hp5] at h5'
              obtain ⟨p, rfl, b⟩ := h5'
              have E6 := hid (E5.out.trans (andQ_some hp5))
              have B6' := hid (B5.out.trans b)
              have H6' := hid (H5.out.beside b nO)
              have R6' := hid (R5.out.beside b nR)
              have s5 := H6'.out.cell 4
              have f5 := H6'.out.soft 4
              replace s5 : w6.cell? ⟨o, 4, none⟩ = some (.int .i64 0) := s5
              have P6 := hid (p.other (i := 4) hO (.int .i64 x4))
              have B6 := hid (B6'.out.setNew (p := ⟨o, 4, none⟩) nO2 (.int .i64 x4))
              have H6 : Hid (BoxW (w6.setCell ⟨o, 4, none⟩ (.int .i64 x4)) o 108 #[.int .i64 x0, .int .i64 x1, .int .i64 x2, .string x3, .int .i64 x4, .int .i64 0, .bool false, .bool false]) := H6'.out.set (i := 4) (u := .int .i64 x4) rfl
              have R6 := hid (R6'.out.other (i := 4) (u := .int .i64 x4) nRO)
              clear p b hp5 E5 P5 B5 H5 R5 B6' H6' R6'
              have C6 := hid (cnum_is bx l6 (w6.setCell ⟨o, 4, none⟩ (.int .i64 x4)) P6.out)
              go_wp2_with fail
              go_at_call 59
              refine C6.out.mono ?_
              rintro e w7 h6
              have h6' : ToldQ bx _ _ (qNum l6) e w7 := h6
              clear h6 C6
              cases hp6 : qNum l6 with
              | none =>
                rw [hp6] at h6'
                obtain ⟨rfl, b⟩ := h6'
                exact ⟨rfl, toldQ_none (E6.out.trans (andQ_none hp6)) rfl (B6.out.trans b)⟩
              | some z =>
                obtain ⟨x5, l7⟩ := z
                rw [hp6] at h6'
                obtain ⟨p, rfl, b⟩ := h6'
                have E7 := hid (E6.out.trans (andQ_some hp6))
                have B7' := hid (B6.out.trans b)
                have H7' := hid (H6.out.beside b nO)
                have R7' := hid (R6.out.beside b nR)
                have s6 := H7'.out.cell 5
                have f6 := H7'.out.soft 5
                replace s6 : w7.cell? ⟨o, 5, none⟩ = some (.int .i64 0) := s6
                have P7 := hid (p.other (i := 5) hO (.int .i64 x5))
                have B7 := hid (B7'.out.setNew (p := ⟨o, 5, none⟩) nO2 (.int .i64 x5))
                have H7 : Hid (BoxW (w7.setCell ⟨o, 5, none⟩ (.int .i64 x5)) o 108 #[.int .i64 x0, .int .i64 x1, .int .i64 x2, .string x3, .int .i64 x4, .int .i64 x5, .bool false, .bool false]) := H7'.out.set (i := 5) (u := .int .i64 x5) rfl
                have R7 := hid (R7'.out.other (i := 5) (u := .int .i64 x5) nRO)
                clear p b hp6 E6 P6 B6 H6 R6 B7' H7' R7'
                have C7 := hid (ceither_is bx ⟨#[110, 105, 108]⟩ ⟨#[118, 97, 108, 117, 101]⟩ l7 (w7.setCell ⟨o, 5, none⟩ (.int .i64 x5)) P7.out)
                go_wp2_with fail
                go_at_call 61
                refine C7.out.mono ?_
                rintro e w8 h7
                have h7' : ToldQ bx _ _ (qEither wNil wValue l7) e w8 := h7
                clear h7 C7
                cases hp7 : qEither wNil wValue l7 with
                | none =>
                  rw [hp7] at h7'
                  obtain ⟨rfl, b⟩ := h7'
                  exact ⟨rfl, toldQ_none (E7.out.trans (andQ_none hp7)) rfl (B7.out.trans b)⟩
                | some z =>
                  obtain ⟨x6, l8⟩ := z
                  rw [hp7] at h7'
                  obtain ⟨p, rfl, b⟩ := h7'
                  have E8 := hid (E7.out.trans (andQ_some hp7))
                  have B8' := hid (B7.out.trans b)
                  have H8' := hid (H7.out.beside b nO)
                  have R8' := hid (R7.out.beside b nR)
                  have s7 := H8'.out.cell 6
                  have f7 := H8'.out.soft 6
                  replace s7 : w8.cell? ⟨o, 6, none⟩ = some (.bool false) := s7
                  have P8 := hid (p.other (i := 6) hO (.bool x6))
                  have B8 := hid (B8'.out.setNew (p := ⟨o, 6, none⟩) nO2 (.bool x6))
                  have H8 : Hid (BoxW (w8.setCell ⟨o, 6, none⟩ (.bool x6)) o 108 #[.int .i64 x0, .int .i64 x1, .int .i64 x2, .string x3, .int .i64 x4, .int .i64 x5, .bool x6, .bool false]) := H8'.out.set (i := 6) (u := .bool x6) rfl
                  have R8 := hid (R8'.out.other (i := 6) (u := .bool x6) nRO)
                  clear p b hp7 E7 P7 B7 H7 R7 B8' H8' R8'
                  have C8 := hid (ceither_is bx ⟨#[99, 111, 110, 100]⟩ ⟨#[115, 117, 114, 101]⟩ l8 (w8.setCell ⟨o, 6, none⟩ (.bool x6)) P8.out)
                  go_wp2_with fail
                  go_at_call 61
                  refine C8.out.mono ?_
                  rintro e w9 h8
                  have h8' : ToldQ bx _ _ (qEither wCond wSure l8) e w9 := h8
                  clear h8 C8
                  cases hp8 : qEither wCond wSure l8 with
                  | none =>
                    rw [hp8] at h8'
                    obtain ⟨rfl, b⟩ := h8'
                    exact ⟨rfl, toldQ_none (E8.out.trans (andQ_none hp8)) rfl (B8.out.trans b)⟩
                  | some z =>
                    obtain ⟨x7, l9⟩ := z
                    rw [hp8] at h8'
                    obtain ⟨p, rfl, b⟩ := h8'
                    have E9 := hid (E8.out.trans (andQ_some hp8))
                    have B9' := hid (B8.out.trans b)
                    have H9' := hid (H8.out.beside b nO)
                    have R9' := hid (R8.out.beside b nR)
                    have s8 := H9'.out.cell 7
                    have f8 := H9'.out.soft 7
                    replace s8 : w9.cell? ⟨o, 7, none⟩ = some (.bool false) := s8
                    have P9 := hid (p.other (i := 7) hO (.bool x7))
                    have B9 := hid (B9'.out.setNew (p := ⟨o, 7, none⟩) nO2 (.bool x7))
                    have H9 : Hid (BoxW (w9.setCell ⟨o, 7, none⟩ (.bool x7)) o 108 #[.int .i64 x0, .int .i64 x1, .int .i64 x2, .string x3, .int .i64 x4, .int .i64 x5, .bool x6, .bool x7]) := H9'.out.set (i := 7) (u := .bool x7) rfl
                    have R9 := hid (R9'.out.other (i := 7) (u := .bool x7) nRO)
                    clear p b hp8 E8 P8 B8 H8 R8 B9' H9' R9'
                    have C9 := hid (ctext_is bx ⟨#[93]⟩ l9 (w9.setCell ⟨o, 7, none⟩ (.bool x7)) P9.out)
                    go_wp2_with fail
                    go_at_call 58
                    refine C9.out.mono ?_
                    rintro e w10 h9
                    have h9' : ToldQ bx _ _ (qText mTo l9) e w10 := h9
                    clear h9 C9
                    cases hp9 : qText mTo l9 with
                    | none =>
                      rw [hp9] at h9'
                      obtain ⟨rfl, b⟩ := h9'
                      exact ⟨rfl, toldQ_none (E9.out.trans (andQ_none hp9)) rfl (B9.out.trans b)⟩
                    | some z =>
                      obtain ⟨_, l10⟩ := z
                      rw [hp9] at h9'
                      obtain ⟨p, rfl, b⟩ := h9'
                      have E10 := hid (E9.out.trans (andQ_some hp9))
                      have B10' := hid (B9.out.trans b)
                      have H10' := hid (H9.out.beside b nO)
                      have R10' := hid (R9.out.beside b nR)
                      have P10 := hid p
                      have B10 := B10'
                      have H10 := H10'
                      have R10 := R10'
                      clear p b hp9 E9 P9 B9 H9 R9 B10' H10' R10'
                      have c0 : w10.cell? ⟨o, 0, none⟩ = some (.int .i64 x0) := H10.out.cell 0
                      have r0 : w10.cell? ⟨rv, 0, none⟩ = some (.int .i64 0) := R10.out.cell 0
                      have f0 := R10.out.soft 0
                      have c1 : w10.cell? ⟨o, 1, none⟩ = some (.int .i64 x1) := H10.out.cell 1
                      have r1 : w10.cell? ⟨rv, 1, none⟩ = some (.int .i64 0) := R10.out.cell 1
                      have f1 := R10.out.soft 1
                      have c2 : w10.cell? ⟨o, 2, none⟩ = some (.int .i64 x2) := H10.out.cell 2
                      have r2 : w10.cell? ⟨rv, 2, none⟩ = some (.int .i64 0) := R10.out.cell 2
                      have f2 := R10.out.soft 2
                      have c3 : w10.cell? ⟨o, 3, none⟩ = some (.string x3) := H10.out.cell 3
                      have r3 : w10.cell? ⟨rv, 3, none⟩ = some (.string ⟨#[]⟩) := R10.out.cell 3
                      have f3 := R10.out.soft 3
                      have c4 : w10.cell? ⟨o, 4, none⟩ = some (.int .i64 x4) := H10.out.cell 4
                      have r4 : w10.cell? ⟨rv, 4, none⟩ = some (.int .i64 0) := R10.out.cell 4
                      have f4 := R10.out.soft 4
                      have c5 : w10.cell? ⟨o, 5, none⟩ = some (.int .i64 x5) := H10.out.cell 5
                      have r5 : w10.cell? ⟨rv, 5, none⟩ = some (.int .i64 0) := R10.out.cell 5
                      have f5 := R10.out.soft 5
                      have c6 : w10.cell? ⟨o, 6, none⟩ = some (.bool x6) := H10.out.cell 6
                      have r6 : w10.cell? ⟨rv, 6, none⟩ = some (.bool false) := R10.out.cell 6
                      have f6 := R10.out.soft 6
                      have c7 : w10.cell? ⟨o, 7, none⟩ = some (.bool x7) := H10.out.cell 7
                      have r7 : w10.cell? ⟨rv, 7, none⟩ = some (.bool false) := R10.out.cell 7
                      have f7 := R10.out.soft 7
                      go_wp2_with fail
                      refine bodyPost_ret (v := .agg #[.int .i64 x0, .int .i64 x1, .int .i64 x2, .string x3, .int .i64 x4, .int .i64 x5, .bool x6, .bool x7]) (by simp [results, Tryz.results97, go_sem, r0, r1, r2, r3, r4, r5, r6, r7]) rfl ?_
                      refine toldQ_some (x := (x0, x1, x2, x3, x4, x5, x6, x7)) E10.out ?_ rfl ?_
                      · repeat (refine PQ.other ?_ hRv _)
                        exact P10.out
                      · repeat (refine Beside.setNew ?_ nR2 _)
                        exact B10.out
end Go.Proofs.YtkpomcimaofkkaaGreatDoor.Rp
namespace Go.Proofs.YtkpomcimaofkkaaGreatDoor
set_option linter.unusedVariables false
set_option linter.unusedSimpArgs false
open Go.RowKit

section
variable {P : Program} {ops : Array Oper} {Q : Exit → Act → World → Prop} {md : Region.Mode}
/-- How many operations are still to come. -/
def leftN (ops : Array Oper) (listed : Array Bool) : Nat := ((List.range ops.size).filter fun i => !listed.getD i true).length
theorem filter_lt {α : Type} (p q : α → Bool) : ∀ (l : List α), (∀ x ∈ l, q x = true → p x = true) → (∃ x ∈ l, p x = true ∧ q x = false) → (l.filter q).length < (l.filter p).length
  | [], _, h => by obtain ⟨x, hx, _⟩ := h; cases hx
  | a :: l, h1, h2 => by
    have hle : (l.filter q).length ≤ (l.filter p).length := by
      clear h2
      induction l with
      | nil => simp
      | cons b l ih =>
        have := ih (fun x hx => h1 x (by simp at hx ⊢; rcases hx with rfl | hx <;> simp_all))
        have hb := h1 b (by simp)
        simp only [List.filter_cons]
        cases hq : q b <;> cases hp : p b <;> simp_all <;> omega
    by_cases ha : p a = true ∧ q a = false
    · simp only [List.filter_cons, ha.1, ha.2]
      simp
      omega
    · have : ∃ x ∈ l, p x = true ∧ q x = false := by
        obtain ⟨x, hx, hp⟩ := h2
        simp at hx
        rcases hx with rfl | hx
        · exact absurd hp ha
        · exact ⟨x, hx, hp⟩
      have ih := filter_lt p q l (fun x hx => h1 x (by simp [hx])) this
      simp only [List.filter_cons]
      have ha1 := h1 a (by simp)
      cases hq : q a <;> cases hp : p a <;> simp_all
theorem leftN_set {listed : Array Bool} {i : Nat} (hi : i < ops.size) (h : listed.getD i true = false) : leftN ops (listed.setIfInBounds i true) < leftN ops listed := by
  unfold leftN
  have hl : i < listed.size := by
    rcases Nat.lt_or_ge i listed.size with c | c
    · exact c
    · rw [Array.getD_eq_getD_getElem?, Array.getElem?_eq_none c] at h; cases h
  refine filter_lt _ _ _ (fun x _ hx => ?_) ⟨i, by simpa using hi, by simp [h], ?_⟩
  · simp only [Bool.not_eq_true'] at hx ⊢
    by_cases e : i = x
    · subst e
      rw [Array.getD_eq_getD_getElem?, Array.getElem?_setIfInBounds_self_of_lt hl] at hx
      cases hx
    · rwa [getD_set_ne true e] at hx
  · rw [Array.getD_eq_getD_getElem?, Array.getElem?_setIfInBounds_self_of_lt hl]
    rfl
/-- By a statement that each operation which may come carries on. -/
theorem wpAny_inv (J : Array Bool → Act → World → Prop)
    (hstep : ∀ listed a w, J listed a w → ∀ i, i ∈ Region.ready md ops listed → wpOp P ops Q i (J (listed.setIfInBounds i true)) a w)
    (hend : ∀ listed a w, J listed a w → Region.ready md ops listed = [] → Q .normal a w) :
    ∀ (fuel : Nat) (listed : Array Bool) (a : Act) (w : World), leftN ops listed ≤ fuel → J listed a w → wpAny P md ops Q fuel listed a w := by
  intro fuel
  induction fuel with
  | zero =>
    intro listed a w hf hJ
    have hr : Region.ready md ops listed = [] := by
      cases hr : Region.ready md ops listed with
      | nil => rfl
      | cons x xs =>
        have hx : x ∈ Region.ready md ops listed := by rw [hr]; simp
        rw [mem_ready] at hx
        obtain ⟨h1, o, ho, h2⟩ := hx
        have := leftN_set (ops := ops) (Array.getElem?_eq_some_iff.1 ho).1 h1
        omega
    exact ⟨hr, hend listed a w hJ hr⟩
  | succ fuel ih =>
    intro listed a w hf hJ
    refine ⟨fun hr => hend listed a w hJ hr, fun i hi => ?_⟩
    have hi' := hi
    rw [mem_ready] at hi'
    obtain ⟨h1, o, ho, h2⟩ := hi'
    have hl := leftN_set (ops := ops) (Array.getElem?_eq_some_iff.1 ho).1 h1
    exact wpOp_mono (fun a' w' hJ' => ih _ a' w' (by omega) hJ') (hstep listed a w hJ i hi)
end
/-- One value put in. -/
def upV (val : Nat → Value) (i : Nat) (v : Value) : Nat → Value := fun j => if j = i then v else val j
theorem upV_self (val : Nat → Value) (i : Nat) (v : Value) : upV val i v i = v := by simp [upV]
theorem upV_ne (val : Nat → Value) (i j : Nat) (v : Value) (h : j ≠ i) : upV val i v j = val j := by simp [upV, h]
/-- What each operation waits for stands ahead of it. -/
def aheadB (ops : Array Oper) : Bool := (List.range ops.size).all fun i => match ops[i]? with
  | none => true
  | some o => o.after.all fun e => !Region.binds .any e || decide (e.on < i)
theorem ahead_of {ops : Array Oper} (h : aheadB ops = true) {i : Nat} {o : Oper} (ho : ops[i]? = some o) (e : Edge) (he : e ∈ o.after) (hb : Region.binds .any e = true) : e.on < i := by
  unfold aheadB at h
  rw [List.all_eq_true] at h
  have h1 := h i (List.mem_range.2 (Array.getElem?_eq_some_iff.1 ho).1)
  rw [ho] at h1
  simp only [Array.all_eq_true_iff_forall_mem, Bool.or_eq_true, Bool.not_eq_true', decide_eq_true_eq] at h1
  rcases h1 e he with c | c
  · rw [hb] at c; cases c
  · exact c
theorem all_listed {ops : Array Oper} (h : aheadB ops = true) {listed : Array Bool} (hs : listed.size = ops.size) (hr : Region.ready .any ops listed = []) : ∀ i, i < ops.size → listed.getD i false = true := by
  intro i
  induction i using Nat.strongRecOn with
  | ind i ih =>
    intro hi
    cases hg : listed.getD i false with
    | true => rfl
    | false =>
      exfalso
      have ho : ops[i]? = some ops[i] := Array.getElem?_eq_getElem hi
      have hm : i ∈ Region.ready .any ops listed := by
        rw [mem_ready]
        refine ⟨?_, _, ho, fun e he hb => ?_⟩
        · have hl : i < listed.size := by omega
          rw [Array.getD_eq_getD_getElem?, Array.getElem?_eq_getElem hl] at hg ⊢
          exact hg
        · have hlt := ahead_of h ho e he hb
          exact ih e.on hlt (by omega)
      rw [hr] at hm
      cases hm
/-- A region that draws its order: R i v w: v is what operation i has yielded, seen from the world w; nothing that lay there turns. -/
theorem wp_region_inv {P : Program} {ops : Array Oper} {Q : Exit → Act → World → Prop} {id : Nat} {a0 : Act} {w0 : World} (hm : P.follows .mixedOrders = true) (hah : aheadB ops = true)
    (frame : (Nat → Value) → Act) (R : Nat → Value → World → Prop) (val0 : Nat → Value) (h0 : a0 = frame val0)
    (hstab : ∀ i v w w', R i v w → Below w.heap.size w w' → R i v w')
    (hop : ∀ i o, ops[i]? = some o → ∀ val w, Below w0.heap.size w0 w → (∀ e ∈ o.after, Region.binds .any e = true → R e.on (val e.on) w) →
      if Region.wanted o (yielded ops (frame val).tmps) then o.wp P (frame val) w (fun a' w' => ∃ v, a' = frame (upV val i v) ∧ R i v w' ∧ Below w.heap.size w w') Q
      else (frame val).put o.dst undef = frame (upV val i undef) ∧ R i undef w)
    (hend : ∀ val w, Below w0.heap.size w0 w → (∀ i, i < ops.size → R i (val i) w) → Q .normal (frame val) w) : (Code.region id ops true).wp P Q a0 w0 := by
  refine wp_region_any hm ?_
  refine wpAny_inv (fun listed a w => listed.size = ops.size ∧ ∃ val, a = frame val ∧ Below w0.heap.size w0 w ∧ ∀ i, i < ops.size → listed.getD i false = true → R i (val i) w) ?_ ?_ _ _ _ _ ?_ ?_
  · rintro listed a w ⟨hs, val, rfl, hb, hR⟩ i hi
    rw [mem_ready] at hi
    obtain ⟨h1, o, ho, h2⟩ := hi
    have hio : i < ops.size := (Array.getElem?_eq_some_iff.1 ho).1
    have key : ∀ v w', R i v w' → Below w.heap.size w w' → ((listed.setIfInBounds i true).size = ops.size ∧ ∃ val', frame (upV val i v) = frame val' ∧ Below w0.heap.size w0 w' ∧ ∀ j, j < ops.size → (listed.setIfInBounds i true).getD j false = true → R j (val' j) w') := fun v w' hv hw => by
      refine ⟨by simpa using hs, upV val i v, rfl, hb.trans (hw.mono hb.size), fun j hj hl => ?_⟩
      by_cases e : j = i
      · subst e
        rw [upV_self]
        exact hv
      · rw [upV_ne _ _ _ _ e]
        rw [getD_set_ne false (fun c => e c.symm)] at hl
        exact hstab _ _ _ _ (hR j hj hl) hw
    have hk := hop i o ho val w hb (fun e he hbd => hR e.on (by have := ahead_of hah ho e he hbd; omega) (h2 e he hbd))
    unfold wpOp
    rw [ho]
    simp only
    by_cases hw : Region.wanted o (yielded ops (frame val).tmps) = true
    · rw [if_pos hw] at hk ⊢
      exact .inl (Oper.wp_mono (fun a' w' ⟨v, e, hv, hbv⟩ => by rw [e]; exact key v w' hv hbv) hk)
    · rw [if_neg hw] at hk ⊢
      rw [hk.1]
      exact key undef w hk.2 (Below.refl _ _)
  · rintro listed a w ⟨hs, val, rfl, hb, hR⟩ hr
    exact hend val w hb (fun i hi => hR i hi (all_listed hah hs hr i hi))
  · unfold leftN
    exact Nat.le_trans (List.length_filter_le _ _) (by simp)
  · refine ⟨by simp, val0, h0, ⟨rfl, rfl, rfl, Nat.le_refl _, fun _ _ => rfl⟩, fun i hi hl => ?_⟩
    simp [Array.getD_eq_getD_getElem?, hi] at hl
/-- Each operation of a list, with its number. -/
def allOps (F : Nat → Oper → Prop) : Nat → List Oper → Prop
  | _, [] => True
  | k, o :: l => F k o ∧ allOps F (k + 1) l
theorem allOps_at {F : Nat → Oper → Prop} : ∀ (l : List Oper) (k j : Nat) (o : Oper), allOps F k l → l[j]? = some o → F (k + j) o
  | [], _, _, _, _, h => by simp at h
  | a :: l, k, 0, o, h, he => by simp at he; subst he; exact h.1
  | a :: l, k, j + 1, o, h, he => by
    have := allOps_at l (k + 1) j o h.2 (by simpa using he)
    have e : k + 1 + j = k + (j + 1) := by omega
    rwa [e] at this
/-- What is known of those that an operation waits for. -/
def depsAll (R : Nat → Value → World → Prop) (val : Nat → Value) (w : World) : List Edge → Prop
  | [] => True
  | e :: l => (Region.binds .any e = true → R e.on (val e.on) w) ∧ depsAll R val w l
theorem depsAll_of {R : Nat → Value → World → Prop} {val : Nat → Value} {w : World} : ∀ (l : List Edge), (∀ e ∈ l, Region.binds .any e = true → R e.on (val e.on) w) → depsAll R val w l
  | [], _ => trivial
  | e :: l, h => ⟨h e (by simp), depsAll_of l (fun x hx => h x (by simp [hx]))⟩
theorem depsAll_get {R : Nat → Value → World → Prop} {val : Nat → Value} {w : World} : ∀ {l : List Edge}, depsAll R val w l → ∀ j, (l.any fun e => Region.binds .any e && e.on == j) = true → R j (val j) w
  | [], _, j, h => by cases h
  | e :: l, hd, j, h => by
    simp only [List.any_cons, Bool.or_eq_true, Bool.and_eq_true, beq_iff_eq] at h
    rcases h with ⟨hb, rfl⟩ | h
    · exact hd.1 hb
    · exact depsAll_get hd.2 j (by simpa using h)
/-- What is asked of one operation. -/
def OpAsk (P : Program) (ops : Array Oper) (Q : Exit → Act → World → Prop) (w0 : World) (frame : (Nat → Value) → Act) (R : Nat → Value → World → Prop) (i : Nat) (o : Oper) : Prop :=
  ∀ val w, Below w0.heap.size w0 w → depsAll R val w o.after.toList →
      if Region.wanted o (yielded ops (frame val).tmps) then o.wp P (frame val) w (fun a' w' => ∃ v, a' = frame (upV val i v) ∧ R i v w' ∧ Below w.heap.size w w') Q
      else (frame val).put o.dst undef = frame (upV val i undef) ∧ R i undef w
/-- A region that draws its order, operation by operation. -/
theorem wp_region_ask {P : Program} {ops : Array Oper} {Q : Exit → Act → World → Prop} {id : Nat} {a0 : Act} {w0 : World} (hm : P.follows .mixedOrders = true) (hah : aheadB ops = true)
    (frame : (Nat → Value) → Act) (R : Nat → Value → World → Prop) (val0 : Nat → Value) (h0 : a0 = frame val0)
    (hstab : ∀ i v w w', R i v w → Below w.heap.size w w' → R i v w')
    (l : List Oper) (hl : ops.toList = l) (hop : allOps (OpAsk P ops Q w0 frame R) 0 l)
    (hend : ∀ val w, Below w0.heap.size w0 w → (∀ i, i < ops.size → R i (val i) w) → Q .normal (frame val) w) : (Code.region id ops true).wp P Q a0 w0 := by
  refine wp_region_inv hm hah frame R val0 h0 hstab (fun i o ho val w hb hd => ?_) hend
  have h1 := allOps_at l 0 i o hop (by rw [← hl]; simpa using ho)
  rw [Nat.zero_add] at h1
  exact h1 val w hb (depsAll_of _ (fun e he => hd e (by simpa using he)))
section
variable {P : Program} {ops : Array Oper} {Q : Exit → Act → World → Prop} {w0 : World} {frame : (Nat → Value) → Act} {R : Nat → Value → World → Prop} {i : Nat} {o : Oper}
/-- What an operation must come to. -/
def OpDoes (P : Program) (Q : Exit → Act → World → Prop) (R : Nat → Value → World → Prop) (i : Nat) (o : Oper) (A : Act) (w : World) : Prop :=
  ∀ K : Act → World → Prop, (∀ v w', R i v w' → Below w.heap.size w w' → K (A.put o.dst v) w') → o.wp P A w K Q
theorem ask_plain (hg : o.guard = none) (hput : ∀ val v, (frame val).put o.dst v = frame (upV val i v)) (h : ∀ val w, Below w0.heap.size w0 w → depsAll R val w o.after.toList → OpDoes P Q R i o (frame val) w) : OpAsk P ops Q w0 frame R i o := by
  intro val w hb hd
  rw [if_pos (by simp [Region.wanted, hg])]
  exact h val w hb hd _ (fun v w' hv hw => ⟨v, hput val v, hv, hw⟩)
theorem ask_yes (j : Nat) (b : Bool) (hg : o.guard = some (j, b)) (hput : ∀ val v, (frame val).put o.dst v = frame (upV val i v)) (hy : ∀ val w, depsAll R val w o.after.toList → yielded ops (frame val).tmps j = some b) (h : ∀ val w, Below w0.heap.size w0 w → depsAll R val w o.after.toList → OpDoes P Q R i o (frame val) w) : OpAsk P ops Q w0 frame R i o := by
  intro val w hb hd
  rw [if_pos (by simp [Region.wanted, hg, hy val w hd])]
  exact h val w hb hd _ (fun v w' hv hw => ⟨v, hput val v, hv, hw⟩)
theorem ask_no (j : Nat) (b c : Bool) (hg : o.guard = some (j, b)) (hbc : b ≠ c) (hput : ∀ val v, (frame val).put o.dst v = frame (upV val i v)) (hy : ∀ val w, depsAll R val w o.after.toList → yielded ops (frame val).tmps j = some c) (h : ∀ w, R i undef w) : OpAsk P ops Q w0 frame R i o := by
  intro val w hb hd
  rw [if_neg (by simp [Region.wanted, hg, hy val w hd]; exact fun e => hbc e.symm)]
  exact ⟨hput val undef, h w⟩
/-- One that yields a value and leaves the world. -/
theorem does_value {A : Act} {w : World} {v : Value} (h : (execOp A.eval o).run P w = .ok (.value v) w) (hR : R i v w) : OpDoes P Q R i o A w := by
  intro K hK
  unfold Oper.wp
  rw [h]
  exact hK v w hR (Below.refl _ _)
/-- One that yields a value in a world that has grown. -/
theorem does_grown {A : Act} {w w' : World} {v : Value} (h : (execOp A.eval o).run P w = .ok (.value v) w') (hR : R i v w') (hb : Below w.heap.size w w') : OpDoes P Q R i o A w := by
  intro K hK
  unfold Oper.wp
  rw [h]
  exact hK v w' hR hb
/-- A call. -/
theorem does_call {A : Act} {w : World} {f : FuncId} {args : Array Value} {C : Ending → World → Prop} (h : (execOp A.eval o).run P w = .ok (.enter f args) w) (hc : Calls P f args w C) (hR : ∀ e w', C e w' → ∃ v, e = .returned v ∧ R i v w' ∧ Below w.heap.size w w') : OpDoes P Q R i o A w := by
  intro K hK
  unfold Oper.wp
  rw [h]
  refine Calls.mono hc (fun e w' he => ?_)
  obtain ⟨v, rfl, hv, hb⟩ := hR e w' he
  exact hK v w' hv hb
end
end Go.Proofs.YtkpomcimaofkkaaGreatDoor
