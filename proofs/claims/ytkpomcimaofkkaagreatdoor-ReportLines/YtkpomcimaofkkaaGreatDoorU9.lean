/-
  The code's reader of a report's text: an anomaly.
  The code's reader of a report's text: an order, numbers in marks.
-/
import Derived.Test.YtkpomcimaofkkaaGreatDoorU8
namespace Go.Proofs.YtkpomcimaofkkaaGreatDoor.Rp
set_option linter.unusedVariables false
set_option linter.unusedSimpArgs false
open Go.RowKit Go.Lib

/-- What a part of the reader leaves, where what it is lies in memory. -/
def ToldM {α : Type} (bx : Nat) (w : World) (R : α → Value → World → Prop) (p : Qs α) (e : Ending) (w' : World) : Prop := match p with
  | some z => PQ bx z.2 w' ∧ (∃ v, e = .returned v ∧ R z.1 v w') ∧ Beside bx w w'
  | none => e = gaveUp ∧ Beside bx w w'
theorem toldM_none {α : Type} {bx : Nat} {w : World} {R : α → Value → World → Prop} {p : Qs α} (h : p = none) {e : Ending} {w' : World} (he : e = gaveUp) (hb : Beside bx w w') : ToldM bx w R p e w' := by rw [h]; exact ⟨he, hb⟩
theorem toldM_some {α : Type} {bx : Nat} {w : World} {R : α → Value → World → Prop} {p : Qs α} {x : α} {l : List MTok} (h : p = some (x, l)) {v : Value} {w' : World} (hp : PQ bx l w') (hR : R x v w') (hb : Beside bx w w') : ToldM bx w R p (.returned v) w' := by rw [h]; exact ⟨hp, ⟨v, rfl, hR⟩, hb⟩
/-- An anomaly as a value. -/
def AnV (S : Nat → Prop) (w : World) (v : Value) (a : MA) : Prop := ∃ ca cc, v = .agg (encA a (.slice ca a.cyc.length cc)).toArray ∧ WhysS S w (.slice ca a.cyc.length cc) a.cyc
theorem deps_end {f : Nat} {l : List MTok} {acc : List MW} (h : qSees l mFrom = false) : qDeps (f + 1) l acc = some (acc, l) := by
  unfold qDeps; rw [h]; rfl
theorem deps_more {f : Nat} {l : List MTok} {acc : List MW} (h : qSees l mFrom = true) : qDeps (f + 1) l acc = andQ (qDep l) fun x r => qDeps f r (acc ++ [x]) := by
  show (if qSees l mFrom then _ else _) = _
  rw [if_pos h]
set_option maxHeartbeats 8000000 in
set_option maxRecDepth 100000 in
theorem can_is (bx : Nat) (l0 : List MTok) (w : World) (h : PQ bx l0 w) (hN : NamesAt w) (hb0 : 0 ≠ bx) :
    Calls Tryz.prog 63 #[.pointer (some ⟨bx, 0, none⟩)] w fun e w' => ToldM bx w (fun a v V => AnV (fun b => w.heap.size ≤ b) V v a) (qAn l0) e w' := by
  have NM : Hid (∀ V, Beside bx w V → NamesAt V) := fun V hb => hN.beside hb hb0
  have A1 := hid (below_box w (.cells #[.int .i64 0, .int .i64 0, .int .i64 0, .int .i64 0, .string ⟨#[]⟩, .int .i64 0, .slice none 0 0, .bool false, .int .i64 0] 68))
  obtain ⟨w00, hw00⟩ : ∃ w00, w.alloc (.cells #[.int .i64 0, .int .i64 0, .int .i64 0, .int .i64 0, .string ⟨#[]⟩, .int .i64 0, .slice none 0 0, .bool false, .int .i64 0] 68) = w00 := ⟨_, rfl⟩
  obtain ⟨w0, hw0⟩ : ∃ w0, w00.alloc (.cells #[.int .i64 0, .int .i64 0, .int .i64 0, .int .i64 0, .string ⟨#[]⟩, .int .i64 0, .slice none 0 0, .bool false, .int .i64 0] 68) = w0 := ⟨_, rfl⟩
  obtain ⟨rv, hrv⟩ : ∃ rv, w.heap.size = rv := ⟨_, rfl⟩
  obtain ⟨o, ho⟩ : ∃ o, w00.heap.size = o := ⟨_, rfl⟩
  have hor : o = rv + 1 := by rw [← ho, ← hw00, ← hrv]; simp
  have BL : Below w.heap.size w w0 := by rw [← hw0, ← hw00]; exact (below_box w _).trans ((below_box _ _).mono (by simp))
  have P0 := hid (h.later BL)
  have B0 : Hid (Beside bx w w0) := Beside.of_below BL
  have H0 : Hid (BoxW w0 o 68 #[.int .i64 0, .int .i64 0, .int .i64 0, .int .i64 0, .string ⟨#[]⟩, .int .i64 0, .slice none 0 0, .bool false, .int .i64 0]) := by rw [← hw0, ← ho]; exact box_new _ _ _
  have R0 : Hid (BoxW w0 rv 68 #[.int .i64 0, .int .i64 0, .int .i64 0, .int .i64 0, .string ⟨#[]⟩, .int .i64 0, .slice none 0 0, .bool false, .int .i64 0]) := by rw [← hw0, ← hrv]; exact (by rw [← hw00]; exact box_new w _ _ : BoxW w00 w.heap.size 68 #[.int .i64 0, .int .i64 0, .int .i64 0, .int .i64 0, .string ⟨#[]⟩, .int .i64 0, .slice none 0 0, .bool false, .int .i64 0]).later (below_box _ _)
  have hlt := h.lt
  have hO : bx < o := by omega
  have nO : o ≠ bx := by omega
  have nR : rv ≠ bx := by omega
  have nRO : rv ≠ o := by omega
  have hRv : bx < rv := by omega
  have nO2 : w.heap.size ≤ o := by omega
  have nR2 : w.heap.size ≤ rv := by omega
  obtain ⟨qr, hqr⟩ : ∃ qr, qAn l0 = qr := ⟨_, rfl⟩
  rw [hqr]
  have E0 := hid hqr.symm
  have F0 : Hid (l0.length ≤ 20000) := h.few
  clear hqr
  clear h BL hor
  go_enter Tryz.func63, Tryz.ntmps63
  go_wp2_with fail
  clear hw00 hw0 hrv ho A1
  have C0 := hid (ctext_is bx ⟨#[97, 110, 111, 109, 97, 108, 121]⟩ l0 (w0) P0.out)
  go_wp2_with fail
  go_at_call 58
  refine C0.out.mono ?_
  rintro e w1 h0
  have h0' : ToldQ bx _ _ (qText wAnomaly l0) e w1 := h0
  clear h0 C0
  cases hp0 : qText wAnomaly l0 with
  | none =>
    rw [hp0] at h0'
    obtain ⟨rfl, b⟩ := h0'
    exact ⟨rfl, toldM_none (E0.out.trans (andQ_none hp0)) rfl (B0.out.trans b)⟩
  | some z =>
    obtain ⟨_, l1⟩ := z
    rw [hp0] at h0'
    obtain ⟨p, rfl, b⟩ := h0'
    have E1 := hid (E0.out.trans (andQ_some hp0))
    have B1' := hid (B0.out.trans b)
    have H1' := hid (H0.out.beside b nO)
    have R1' := hid (R0.out.beside b nR)
    have P1 := hid p
    have B1 := B1'
    have H1 := H1'
    have R1 := R1'
    clear p b hp0 E0 P0 B0 H0 R0 B1' H1' R1'
    have KW := hid (kinds_is (w1))
    go_wp2_with fail
    go_at_call 80
    refine KW.out.mono ?_
    rintro e v1 ⟨rfl, hv1⟩
    have B1w : Hid (Below (w1).heap.size (w1) v1) := by rw [← hv1]; exact below_box _ _
    have WA : Hid (WordsAt v1 (w1).heap.size kindWs) := by rw [← hv1]; exact words_is _ _
    have nW : (w1).heap.size ≠ bx := fun c => by have := P1.out.lt; omega
    have P1v := hid (P1.out.later B1w.out)
    have B1v := hid (B1.out.later' B1w.out)
    have H1v := hid (H1.out.later B1w.out)
    have R1v := hid (R1.out.later B1w.out)
    obtain ⟨gw, hgw⟩ : ∃ gw, (w1).heap.size = gw := ⟨_, rfl⟩
    rw [hgw] at WA nW
    rw [hgw]
    have C1 := hid (coneOf_is bx gw 12 kindWs l1 v1 P1v.out WA.out nW (by decide))
    clear hv1 hgw KW P1 B1 H1 R1 B1w
    go_wp2_with fail
    go_at_call 65
    refine C1.out.mono ?_
    rintro e w2 h1
    have h1' : ToldQ bx _ _ (qOne kindWs l1) e w2 := h1
    clear h1 C1
    cases hp1 : qOne kindWs l1 with
    | none =>
      rw [hp1] at h1'
      obtain ⟨rfl, b⟩ := h1'
      exact ⟨rfl, toldM_none (E1.out.trans (andQ_none hp1)) rfl (B1v.out.trans b)⟩
    | some z =>
      obtain ⟨x0, l2⟩ := z
      rw [hp1] at h1'
      obtain ⟨p, rfl, b⟩ := h1'
      have E2 := hid (E1.out.trans (andQ_some hp1))
      have B2' := hid (B1v.out.trans b)
      have H2' := hid (H1v.out.beside b nO)
      have R2' := hid (R1v.out.beside b nR)
      have s1 := H2'.out.cell 0
      have f1 := H2'.out.soft 0
      replace s1 : w2.cell? ⟨o, 0, none⟩ = some (.int .i64 0) := s1
      have P2 := hid (p.other (i := 0) hO (.int .i64 x0))
      have B2 := hid (B2'.out.setNew (p := ⟨o, 0, none⟩) nO2 (.int .i64 x0))
      have H2 : Hid (BoxW (w2.setCell ⟨o, 0, none⟩ (.int .i64 x0)) o 68 #[.int .i64 x0, .int .i64 0, .int .i64 0, .int .i64 0, .string ⟨#[]⟩, .int .i64 0, .slice none 0 0, .bool false, .int .i64 0]) := H2'.out.set (i := 0) (u := .int .i64 x0) rfl
      have R2 := hid (R2'.out.other (i := 0) (u := .int .i64 x0) nRO)
      clear p b hp1 E1 P1v B1v H1v R1v B2' H2' R2' WA nW
      have C2 := hid (cnum_is bx l2 (w2.setCell ⟨o, 0, none⟩ (.int .i64 x0)) P2.out)
      go_wp2_with fail
      go_at_call 59
      refine C2.out.mono ?_
      rintro e w3 h2
      have h2' : ToldQ bx _ _ (qNum l2) e w3 := h2
      clear h2 C2
      cases hp2 : qNum l2 with
      | none =>
        rw [hp2] at h2'
        obtain ⟨rfl, b⟩ := h2'
        exact ⟨rfl, toldM_none (E2.out.trans (andQ_none hp2)) rfl (B2.out.trans b)⟩
      | some z =>
        obtain ⟨x1, l3⟩ := z
        rw [hp2] at h2'
        obtain ⟨p, rfl, b⟩ := h2'
        have E3 := hid (E2.out.trans (andQ_some hp2))
        have B3' := hid (B2.out.trans b)
        have H3' := hid (H2.out.beside b nO)
        have R3' := hid (R2.out.beside b nR)
        have s2 := H3'.out.cell 1
        have f2 := H3'.out.soft 1
        replace s2 : w3.cell? ⟨o, 1, none⟩ = some (.int .i64 0) := s2
        have P3 := hid (p.other (i := 1) hO (.int .i64 x1))
        have B3 := hid (B3'.out.setNew (p := ⟨o, 1, none⟩) nO2 (.int .i64 x1))
        have H3 : Hid (BoxW (w3.setCell ⟨o, 1, none⟩ (.int .i64 x1)) o 68 #[.int .i64 x0, .int .i64 x1, .int .i64 0, .int .i64 0, .string ⟨#[]⟩, .int .i64 0, .slice none 0 0, .bool false, .int .i64 0]) := H3'.out.set (i := 1) (u := .int .i64 x1) rfl
        have R3 := hid (R3'.out.other (i := 1) (u := .int .i64 x1) nRO)
        clear p b hp2 E2 P2 B2 H2 R2 B3' H3' R3'
        have C3 := hid (cnum_is bx l3 (w3.setCell ⟨o, 1, none⟩ (.int .i64 x1)) P3.out)
        go_wp2_with fail
        go_at_call 59
        refine C3.out.mono ?_
        rintro e w4 h3
        have h3' : ToldQ bx _ _ (qNum l3) e w4 := h3
        clear h3 C3
        cases hp3 : qNum l3 with
        | none =>
          rw [hp3] at h3'
          obtain ⟨rfl, b⟩ := h3'
          exact ⟨rfl, toldM_none (E3.out.trans (andQ_none hp3)) rfl (B3.out.trans b)⟩
        | some z =>
          obtain ⟨x2, l4⟩ := z
          rw [hp3] at h3'
          obtain ⟨p, rfl, b⟩ := h3'
          have E4 := hid (E3.out.trans (andQ_some hp3))
          have B4' := hid (B3.out.trans b)
          have H4' := hid (H3.out.beside b nO)
          have R4' := hid (R3.out.beside b nR)
          have s3 := H4'.out.cell 2
          have f3 := H4'.out.soft 2
          replace s3 : w4.cell? ⟨o, 2, none⟩ = some (.int .i64 0) := s3
          have P4 := hid (p.other (i := 2) hO (.int .i64 x2))
          have B4 := hid (B4'.out.setNew (p := ⟨o, 2, none⟩) nO2 (.int .i64 x2))
          have H4 : Hid (BoxW (w4.setCell ⟨o, 2, none⟩ (.int .i64 x2)) o 68 #[.int .i64 x0, .int .i64 x1, .int .i64 x2, .int .i64 0, .string ⟨#[]⟩, .int .i64 0, .slice none 0 0, .bool false, .int .i64 0]) := H4'.out.set (i := 2) (u := .int .i64 x2) rfl
          have R4 := hid (R4'.out.other (i := 2) (u := .int .i64 x2) nRO)
          clear p b hp3 E3 P3 B3 H3 R3 B4' H4' R4'
          have C4 := hid (cnum_is bx l4 (w4.setCell ⟨o, 2, none⟩ (.int .i64 x2)) P4.out)
          go_wp2_with fail
          go_at_call 59
          refine C4.out.mono ?_
          rintro e w5 h4
          have h4' : ToldQ bx _ _ (qNum l4) e w5 := h4
          clear h4 C4
          cases hp4 : qNum l4 with
          | none =>
            rw [hp4] at h4'
            obtain ⟨rfl, b⟩ := h4'
            exact ⟨rfl, toldM_none (E4.out.trans (andQ_none hp4)) rfl (B4.out.trans b)⟩
          | some z =>
            obtain ⟨x3, l5⟩ := z
            rw [hp4] at h4'
            obtain ⟨p, rfl, b⟩ := h4'
            have E5 := hid (E4.out.trans (andQ_some hp4))
            have B5' := hid (B4.out.trans b)
            have H5' := hid (H4.out.beside b nO)
            have R5' := hid (R4.out.beside b nR)
            have s4 := H5'.out.cell 3
            have f4 := H5'.out.soft 3
            replace s4 : w5.cell? ⟨o, 3, none⟩ = some (.int .i64 0) := s4
            have P5 := hid (p.other (i := 3) hO (.int .i64 x3))
            have B5 := hid (B5'.out.setNew (p := ⟨o, 3, none⟩) nO2 (.int .i64 x3))
            have H5 : Hid (BoxW (w5.setCell ⟨o, 3, none⟩ (.int .i64 x3)) o 68 #[.int .i64 x0, .int .i64 x1, .int .i64 x2, .int .i64 x3, .string ⟨#[]⟩, .int .i64 0, .slice none 0 0, .bool false, .int .i64 0]) := H5'.out.set (i := 3) (u := .int .i64 x3) rfl
            have R5 := hid (R5'.out.other (i := 3) (u := .int .i64 x3) nRO)
            clear p b hp4 E4 P4 B4 H4 R4 B5' H5' R5'
            have C5 := hid (ckey_is bx l5 (w5.setCell ⟨o, 3, none⟩ (.int .i64 x3)) P5.out)
            go_wp2_with fail
            go_at_call 96
            refine C5.out.mono ?_
            rintro e w6 h5
            have h5' : ToldQ bx _ _ (qKey l5) e w6 := h5
            clear h5 C5
            cases hp5 : qKey l5 with
            | none =>
              rw [hp5] at h5'
              obtain ⟨rfl, b⟩ := h5'
              exact ⟨rfl, toldM_none (E5.out.trans (andQ_none hp5)) rfl (B5.out.trans b)⟩
            | some z =>
              obtain ⟨x4, l6⟩ := z
              rw [hp5] at h5'
              obtain ⟨p, rfl, b⟩ := h5'
              have E6 := hid (E5.out.trans (andQ_some hp5))
              have B6' := hid (B5.out.trans b)
              have H6' := hid (H5.out.beside b nO)
              have R6' := hid (R5.out.beside b nR)
              have s5 := H6'.out.cell 4
              have f5 := H6'.out.soft 4
              replace s5 : w6.cell? ⟨o, 4, none⟩ = some (.string ⟨#[]⟩) := s5
              have P6 := hid (p.other (i := 4) hO (.string x4))
              have B6 := hid (B6'.out.setNew (p := ⟨o, 4, none⟩) nO2 (.string x4))
              have H6 : Hid (BoxW (w6.setCell ⟨o, 4, none⟩ (.string x4)) o 68 #[.int .i64 x0, .int .i64 x1, .int .i64 x2, .int .i64 x3, .string x4, .int .i64 0, .slice none 0 0, .bool false, .int .i64 0]) := H6'.out.set (i := 4) (u := .string x4) rfl
              have R6 := hid (R6'.out.other (i := 4) (u := .string x4) nRO)
              clear p b hp5 E5 P5 B5 H5 R5 B6' H6' R6'
              have C6 := hid (cnum_is bx l6 (w6.setCell ⟨o, 4, none⟩ (.string x4)) P6.out)
              go_wp2_with fail
              go_at_call 59
              refine C6.out.mono ?_
              rintro e w7 h6
              have h6' : ToldQ bx _ _ (qNum l6) e w7 := h6
              clear h6 C6
              cases hp6 : qNum l6 with
              | none =>
                rw [hp6] at h6'
                obtain ⟨rfl, b⟩ := h6'
                exact ⟨rfl, toldM_none (E6.out.trans (andQ_none hp6)) rfl (B6.out.trans b)⟩
              | some z =>
                obtain ⟨x5, l7⟩ := z
                rw [hp6] at h6'
                obtain ⟨p, rfl, b⟩ := h6'
                have E7 := hid (E6.out.trans (andQ_some hp6))
                have B7' := hid (B6.out.trans b)
                have H7' := hid (H6.out.beside b nO)
                have R7' := hid (R6.out.beside b nR)
                have s6 := H7'.out.cell 5
                have f6 := H7'.out.soft 5
                replace s6 : w7.cell? ⟨o, 5, none⟩ = some (.int .i64 0) := s6
                have P7 := hid (p.other (i := 5) hO (.int .i64 x5))
                have B7 := hid (B7'.out.setNew (p := ⟨o, 5, none⟩) nO2 (.int .i64 x5))
                have H7 : Hid (BoxW (w7.setCell ⟨o, 5, none⟩ (.int .i64 x5)) o 68 #[.int .i64 x0, .int .i64 x1, .int .i64 x2, .int .i64 x3, .string x4, .int .i64 x5, .slice none 0 0, .bool false, .int .i64 0]) := H7'.out.set (i := 5) (u := .int .i64 x5) rfl
                have R7 := hid (R7'.out.other (i := 5) (u := .int .i64 x5) nRO)
                clear p b hp6 E6 P6 B6 H6 R6 B7' H7' R7'
                have C7 := hid (ceither_is bx ⟨#[114, 101, 97, 108]⟩ ⟨#[112, 108, 97, 105, 110]⟩ l7 (w7.setCell ⟨o, 5, none⟩ (.int .i64 x5)) P7.out)
                go_wp2_with fail
                go_at_call 61
                refine C7.out.mono ?_
                rintro e w8 h7
                have h7' : ToldQ bx _ _ (qEither wReal wPlain l7) e w8 := h7
                clear h7 C7
                cases hp7 : qEither wReal wPlain l7 with
                | none =>
                  rw [hp7] at h7'
                  obtain ⟨rfl, b⟩ := h7'
                  exact ⟨rfl, toldM_none (E7.out.trans (andQ_none hp7)) rfl (B7.out.trans b)⟩
                | some z =>
                  obtain ⟨x7, l8⟩ := z
                  rw [hp7] at h7'
                  obtain ⟨p, rfl, b⟩ := h7'
                  have E8 := hid (E7.out.trans (andQ_some hp7))
                  have B8' := hid (B7.out.trans b)
                  have H8' := hid (H7.out.beside b nO)
                  have R8' := hid (R7.out.beside b nR)
                  have s7 := H8'.out.cell 7
                  have f7 := H8'.out.soft 7
                  replace s7 : w8.cell? ⟨o, 7, none⟩ = some (.bool false) := s7
                  have P8 := hid (p.other (i := 7) hO (.bool x7))
                  have B8 := hid (B8'.out.setNew (p := ⟨o, 7, none⟩) nO2 (.bool x7))
                  have H8 : Hid (BoxW (w8.setCell ⟨o, 7, none⟩ (.bool x7)) o 68 #[.int .i64 x0, .int .i64 x1, .int .i64 x2, .int .i64 x3, .string x4, .int .i64 x5, .slice none 0 0, .bool x7, .int .i64 0]) := H8'.out.set (i := 7) (u := .bool x7) rfl
                  have R8 := hid (R8'.out.other (i := 7) (u := .bool x7) nRO)
                  clear p b hp7 E7 P7 B7 H7 R7 B8' H8' R8'
                  have C8 := hid (clevel_is bx l8 (w8.setCell ⟨o, 7, none⟩ (.bool x7)) P8.out (NM.out _ B8.out) hb0)
                  go_wp2_with fail
                  go_at_call 64
                  refine C8.out.mono ?_
                  rintro e w9 h8
                  have h8' : ToldQ bx _ _ (qOne levelWs l8) e w9 := h8
                  clear h8 C8
                  cases hp8 : qOne levelWs l8 with
                  | none =>
                    rw [hp8] at h8'
                    obtain ⟨rfl, b⟩ := h8'
                    exact ⟨rfl, toldM_none (E8.out.trans (andQ_none hp8)) rfl (B8.out.trans b)⟩
                  | some z =>
                    obtain ⟨x8, l9⟩ := z
                    rw [hp8] at h8'
                    obtain ⟨p, rfl, b⟩ := h8'
                    have E9 := hid (E8.out.trans (andQ_some hp8))
                    have B9' := hid (B8.out.trans b)
                    have H9' := hid (H8.out.beside b nO)
                    have R9' := hid (R8.out.beside b nR)
                    have s8 := H9'.out.cell 8
                    have f8 := H9'.out.soft 8
                    replace s8 : w9.cell? ⟨o, 8, none⟩ = some (.int .i64 0) := s8
                    have P9 := hid (p.other (i := 8) hO (.int .i64 x8))
                    have B9 := hid (B9'.out.setNew (p := ⟨o, 8, none⟩) nO2 (.int .i64 x8))
                    have H9 : Hid (BoxW (w9.setCell ⟨o, 8, none⟩ (.int .i64 x8)) o 68 #[.int .i64 x0, .int .i64 x1, .int .i64 x2, .int .i64 x3, .string x4, .int .i64 x5, .slice none 0 0, .bool x7, .int .i64 x8]) := H9'.out.set (i := 8) (u := .int .i64 x8) rfl
                    have R9 := hid (R9'.out.other (i := 8) (u := .int .i64 x8) nRO)
                    clear p b hp8 E8 P8 B8 H8 R8 B9' H9' R9'
                    obtain ⟨B, hB⟩ : ∃ B, (w9.setCell ⟨o, 8, none⟩ (.int .i64 x8)).heap.size = B := ⟨_, rfl⟩
                    have hoB : o < B := by rw [← hB]; exact H9.out.lt
                    have hrB : rv < B := by rw [← hB]; exact R9.out.lt
                    have hxB : bx < B := by rw [← hB]; exact P9.out.lt
                    have hwB : w.heap.size ≤ B := by rw [← hB]; exact B9.out.size
                    have SZ : Hid (B ≤ (w9.setCell ⟨o, 8, none⟩ (.int .i64 x8)).heap.size) := by rw [← hB]; exact Nat.le_refl _
                    have FW := hid P9.out.few
                    have s9 : (w9.setCell ⟨o, 8, none⟩ (.int .i64 x8)).cell? ⟨o, 6, none⟩ = some (.slice none 0 0) := H9.out.cell 6
                    clear hB s9
                    go_wp2_with fail
                    go_loopg [] l9.length (fun gm wr => ∃ (L : List MTok) (xs : List MW) (ta : Option Addr) (tc : Nat) (rows : List (List Value)) (f : Nat), L.length ≤ gm ∧ Aside (PQ bx L wr ∧ Beside bx w wr ∧ BoxW wr o 68 #[.int .i64 x0, .int .i64 x1, .int .i64 x2, .int .i64 x3, .string x4, .int .i64 x5, .slice ta xs.length tc, .bool x7, .int .i64 x8] ∧ BoxW wr rv 68 #[.int .i64 0, .int .i64 0, .int .i64 0, .int .i64 0, .string ⟨#[]⟩, .int .i64 0, .slice none 0 0, .bool false, .int .i64 0] ∧ OutInv 108 8 WhyRow B wr (.slice ta xs.length tc) xs.length rows xs ∧ B ≤ wr.heap.size) ∧ Aside (qr = andQ (qDeps f L xs) (fun c l => some ((x0, x1, x2, x3, x4, x5, c, x7, x8), l)) ∧ L.length < f ∧ xs.length + L.length ≤ 20000))
                    case atStart => exact ⟨l9, [], none, 0, [], l9.length + 1, Nat.le_refl _, ⟨P9.out, B9.out, H9.out, R9.out, OutInv.nil _ _ _ _ _, SZ.out⟩, ⟨E9.out, by omega, by simpa using FW.out⟩⟩
                    case round =>
                      clear P9 B9 H9 R9 SZ FW E9 F0 NM
                      obtain ⟨L, xs, ta, tc, rows, f, hg, HX, HY⟩ := hrel
                      have S := hid (csees_is bx ⟨#[91]⟩ L wr HX.out.1)
                      cases hs : qSees L ⟨#[91]⟩ with
                      | true =>
                        rw [hs] at S
                        go_wp2_with (go_at_call 62; refine S.out.mono ?_; rintro e w2 ⟨rfl, rfl⟩)
                        obtain ⟨f, rfl⟩ : ∃ f0, f = f0 + 1 := ⟨f - 1, by have := HY.out.2.1; omega⟩
                        have HD := hid (cdep_is bx L wr.drew (HX.out.1.keep (below_drew1 (Below.refl _ _))))
                        have hE := deps_more (f := f) (acc := xs) hs
                        have HE : Hid (qr = andQ (andQ (qDep L) fun x r => qDeps f r (xs ++ [x])) fun c l => some ((x0, x1, x2, x3, x4, x5, c, x7, x8), l)) := by show _ = _; rw [← hE]; exact HY.out.1
                        clear hE
                        have HO := hid HX.out.2.2.1
                        have HO6 := HO.out.cell 6
                        refine wp_region_ap Tryz.mixedOrders (fun val => { tmps := #[_, _, _, _, _, _, _, _, _, _, _, _, _, _, _, _, _, _, _, _, _, _, _, _, _, _, _, _, _, _, _, _, _, val 0, val 1, val 2, val 3, val 4, val 5, val 6, _], defers := [] }) (fun i => match i with | 0 => u33 | 1 => u34 | 2 => u35 | 3 => u36 | 4 => u37 | 5 => u38 | 6 => u39 | _ => undef) rfl o 6 (.pointer (some ⟨bx, 0, none⟩)) (.slice ta xs.length tc) (fun y => match y with | .agg cs => cs | _ => #[]) 108 (fun y V => ∃ x l2, qDep L = some (x, l2) ∧ y = .agg (encW x).toArray ∧ PQ bx l2 V ∧ Beside bx wr V) (fun z V => ∃ x l2 rows2 g2 cap2, qDep L = some (x, l2) ∧ z = .slice (some ⟨g2, 0, none⟩) (xs.length + 1) cap2 ∧ OutInv 108 8 WhyRow B V z (xs.length + 1) rows2 (xs ++ [x]) ∧ PQ bx l2 V ∧ NearB bx B wr V) ?_ ?_ ?_ ?_ ?_ ?_ ?_ ?_ ?_ ?_ ?_ ?_ ?_ ?_ ?_ ?_ ?_ ?_ ?_ ?_ ?_
                        · exact fun _ _ => rfl
                        · exact fun _ _ => rfl
                        · exact fun _ _ => rfl
                        · exact fun _ _ => rfl
                        · exact fun _ _ => rfl
                        · exact fun _ _ => rfl
                        · exact fun _ _ => rfl
                        · exact fun _ _ => rfl
                        · intro val W
                          simp [execOp, Act.eval, go_sem]
                        · intro val W
                          simp [execOp, Act.eval, go_sem]
                        · intro val W h2
                          simp [execOp, Act.eval, go_sem, resolve, invoke, h2]
                        · intro val W
                          simp [execOp, Act.eval, go_sem]
                        · intro val W h0 hc
                          simp [execOp, Act.eval, go_sem, h0, hc]
                        · intro val W h3
                          obtain ⟨x, l2, hd, h3, hp, hb⟩ := h3
                          have h3' : val 3 = .agg #[.int .i64 x.1, .int .i64 x.2.1, .int .i64 x.2.2.1, .string x.2.2.2.1, .int .i64 x.2.2.2.2.1, .int .i64 x.2.2.2.2.2.1, .bool x.2.2.2.2.2.2.1, .bool x.2.2.2.2.2.2.2] := h3
                          simp [execOp, Act.eval, go_sem, h3']
                        · intro val W h5 h6
                          obtain ⟨x, l2, rows2, g2, cap2, hd, h5, ho, hp, hn⟩ := h5
                          have e0 := (hn.box HO.out hoB nO).cell 6
                          have e1 := (hn.box HO.out hoB nO).soft 6
                          replace e0 : W.cell? ⟨o, 6, none⟩ = some (.slice ta xs.length tc) := e0
                          simp [execOp, Act.eval, go_sem, h5, h6, e0, e1]
                        · refine HD.out.mono (fun e V h => ?_)
                          cases hd : qDep L with
                          | none =>
                            rw [hd] at h
                            obtain ⟨rfl, hb⟩ := h
                            refine .inl ⟨_, rfl, fun val => ⟨rfl, toldM_none (by rw [HE.out, hd]; rfl) rfl ?_⟩⟩
                            exact HX.out.2.1.trans ((be_drew (Beside.refl _ _)).trans hb)
                          | some z =>
                            rw [hd] at h
                            obtain ⟨hp, rfl, hb⟩ := h
                            exact .inr ⟨_, rfl, z.1, z.2, rfl, rfl, hp, (be_drew (Beside.refl _ _)).trans hb⟩
                        · exact HO6
                        · rintro y V ⟨x, l2, _, _, _, hb⟩
                          exact (hb.cell (p := ⟨o, 6, none⟩) HO.out.lt nO).trans HO6
                        · rintro z V ⟨x, l2, rows2, g2, cap2, _, _, _, _, hn⟩
                          exact (hn.box HO.out hoB nO).cell 6
                        · rintro val K y V ⟨x, l2, hd, rfl, hp, hb⟩ h1 h4 hK
                          have OUT := HX.out.2.2.2.2.1
                          have hsz := HX.out.2.2.2.2.2
                          have hb1 : Below V.heap.size V (V.alloc (.cells (encW x).toArray 108)) := below_box V _
                          have hb2 : Beside bx wr (V.alloc (.cells (encW x).toArray 108)) := hb.trans (Beside.of_below hb1)
                          have OB := OutInv.beside whyRow_keep OUT hb2 hxB
                          refine wp_appendW B _ _ _ rfl (.slice ta xs.length tc) xs.length rows.flatten x (show val 1 = _ from h1) V.heap.size (show val 4 = _ from h4) (heap_alloc_new V _) OB.own (Nat.le_trans hsz hb2.size) (by have := HY.out.2.2; omega) (fun g2 cap2 V5 ho hgr hat => ?_)
                          have hbb : Below B (V.alloc (.cells (encW x).toArray 108)) V5 := (Below.refl B _).grown hgr (Nat.le_trans hsz hb2.size) (fun b c => (OUT.own.lt b c).1)
                          refine hK _ V5 ⟨x, l2, rows ++ [encW x], g2, cap2, hd, rfl, OutInv.grow whyRow_keep OUT hsz hxB hb2 (row := encW x) (x := x) rfl rfl ho hgr hat, (hp.keep (hb1.mono hp.lt)).keep (hbb.mono hxB), ?_⟩
                          exact ⟨hbb.os.trans hb2.os, hbb.tape.trans hb2.tape, hbb.output.trans hb2.output, Nat.le_trans hb2.size hbb.size, fun b hlt hn => (hbb.block b hlt).trans (hb2.block b (Nat.lt_of_lt_of_le hlt hsz) hn)⟩
                        · rintro val z V ⟨x, l2, rows2, g2, cap2, hd, rfl, ho, hp, hn⟩
                          have hl2 := dep_lt L x l2 hd
                          clear HO6
                          go_wp2_with fail
                          go_roundg l2.length
                          case measure => omega
                          case rel =>
                            refine ⟨l2, xs ++ [x], some ⟨g2, 0, none⟩, cap2, rows2, f, Nat.le_refl _, ⟨?_, ?_, ?_, ?_, ?_, ?_⟩, ⟨?_, ?_, ?_⟩⟩
                            · exact hp.other hO _
                            · exact (hn.beside HX.out.2.1 hwB).setNew nO2 _
                            · have hl3 : (xs ++ [x]).length = xs.length + 1 := by simp
                              rw [hl3]
                              exact (hn.box HO.out hoB nO).set (i := 6) rfl
                            · exact (hn.box HX.out.2.2.2.1 hrB nR).other nRO
                            · have hl3 : (xs ++ [x]).length = xs.length + 1 := by simp
                              rw [hl3]
                              exact OutInv.beside whyRow_keep ho ((Beside.refl o V).setCell (p := ⟨o, 6, none⟩) rfl _) hoB
                            · simpa [World.setCell] using Nat.le_trans HX.out.2.2.2.2.2 hn.size
                            · rw [HE.out, hd]; rfl
                            · have := HY.out.2.1; omega
                            · have := HY.out.2.2; simp; omega
                      | false =>
                        rw [hs] at S
                        obtain ⟨f, rfl⟩ : ∃ f0, f = f0 + 1 := ⟨f - 1, by have := HY.out.2.1; omega⟩
                        have HE : Hid (qr = some ((x0, x1, x2, x3, x4, x5, xs, x7, x8), L)) := by show _ = _; rw [HY.out.1, deps_end hs]; rfl
                        have c0 : wr.cell? ⟨o, 0, none⟩ = some (.int .i64 x0) := HX.out.2.2.1.cell 0
                        have r0 : wr.cell? ⟨rv, 0, none⟩ = some (.int .i64 0) := HX.out.2.2.2.1.cell 0
                        have f0 := HX.out.2.2.2.1.soft 0
                        have c1 : wr.cell? ⟨o, 1, none⟩ = some (.int .i64 x1) := HX.out.2.2.1.cell 1
                        have r1 : wr.cell? ⟨rv, 1, none⟩ = some (.int .i64 0) := HX.out.2.2.2.1.cell 1
                        have f1 := HX.out.2.2.2.1.soft 1
                        have c2 : wr.cell? ⟨o, 2, none⟩ = some (.int .i64 x2) := HX.out.2.2.1.cell 2
                        have r2 : wr.cell? ⟨rv, 2, none⟩ = some (.int .i64 0) := HX.out.2.2.2.1.cell 2
                        have f2 := HX.out.2.2.2.1.soft 2
                        have c3 : wr.cell? ⟨o, 3, none⟩ = some (.int .i64 x3) := HX.out.2.2.1.cell 3
                        have r3 : wr.cell? ⟨rv, 3, none⟩ = some (.int .i64 0) := HX.out.2.2.2.1.cell 3
                        have f3 := HX.out.2.2.2.1.soft 3
                        have c4 : wr.cell? ⟨o, 4, none⟩ = some (.string x4) := HX.out.2.2.1.cell 4
                        have r4 : wr.cell? ⟨rv, 4, none⟩ = some (.string ⟨#[]⟩) := HX.out.2.2.2.1.cell 4
                        have f4 := HX.out.2.2.2.1.soft 4
                        have c5 : wr.cell? ⟨o, 5, none⟩ = some (.int .i64 x5) := HX.out.2.2.1.cell 5
                        have r5 : wr.cell? ⟨rv, 5, none⟩ = some (.int .i64 0) := HX.out.2.2.2.1.cell 5
                        have f5 := HX.out.2.2.2.1.soft 5
                        have c6 : wr.cell? ⟨o, 6, none⟩ = some (.slice ta xs.length tc) := HX.out.2.2.1.cell 6
                        have r6 : wr.cell? ⟨rv, 6, none⟩ = some (.slice none 0 0) := HX.out.2.2.2.1.cell 6
                        have f6 := HX.out.2.2.2.1.soft 6
                        have c7 : wr.cell? ⟨o, 7, none⟩ = some (.bool x7) := HX.out.2.2.1.cell 7
                        have r7 : wr.cell? ⟨rv, 7, none⟩ = some (.bool false) := HX.out.2.2.2.1.cell 7
                        have f7 := HX.out.2.2.2.1.soft 7
                        have c8 : wr.cell? ⟨o, 8, none⟩ = some (.int .i64 x8) := HX.out.2.2.1.cell 8
                        have r8 : wr.cell? ⟨rv, 8, none⟩ = some (.int .i64 0) := HX.out.2.2.2.1.cell 8
                        have f8 := HX.out.2.2.2.1.soft 8
                        go_wp2_with (go_at_call 62; refine S.out.mono ?_; rintro e w2 ⟨rfl, rfl⟩)
                        refine bodyPost_ret (v := .agg #[.int .i64 x0, .int .i64 x1, .int .i64 x2, .int .i64 x3, .string x4, .int .i64 x5, .slice ta xs.length tc, .bool x7, .int .i64 x8]) (by simp [results, Tryz.results63, go_sem, r0, r1, r2, r3, r4, r5, r6, r7, r8]) rfl ?_
                        refine toldM_some HE.out ?_ ⟨ta, tc, rfl, ?_⟩ ?_
                        · repeat (refine PQ.other ?_ hRv _)
                          exact HX.out.1
                        · have RW := OutInv.rowsR (bytes := 64) whyRow_keep HX.out.2.2.2.2.1 (by have := HY.out.2.2; omega)
                          refine RowsIn.keep RW (by omega) (fun _ _ h => h) (T := fun b => w.heap.size ≤ b) ?_ (fun b _ hb => Nat.le_trans hwB hb)
                          intro b hb hlt
                          have hne : b ≠ rv := fun c => by have : B ≤ b := hb; omega
                          simp only [World.setCell, Array.getElem?_modify]
                          repeat rw [if_neg (fun c => hne c.symm)]
                        · repeat (refine Beside.setNew ?_ nR2 _)
                          exact HX.out.2.1
end Go.Proofs.YtkpomcimaofkkaaGreatDoor.Rp
namespace Go.Proofs.YtkpomcimaofkkaaGreatDoor.Rp
set_option linter.unusedVariables false
set_option linter.unusedSimpArgs false
open Go.RowKit Go.Lib

/-- The cell of a number. -/
def RI (S : Nat → Prop) (w : World) (cs : List Value) (x : Int) : Prop := cs = [.int .i64 x]
theorem ri_keep (S T : Nat → Prop) (w w' : World) (cs : List Value) (x : Int) (h : RI S w cs x) (_ : KeepsIn S w w') (_ : ∀ b, b < w.heap.size → S b → T b) : RI T w' cs x := h
theorem ints_of_out {B n : Nat} {w : World} {v : Value} {rows : List (List Value)} {l : List Int} (h : OutInv 3 1 RI B w v n rows l) (hn : n * 8 ≤ 140737488355328) : IntsIn (fun b => B ≤ b) w v l := by
  obtain ⟨ao, c, hv, hl, hc⟩ := OutInv.rowsR ri_keep h hn
  refine ⟨ao, c, hv, hl, fun h0 => ?_⟩
  obtain ⟨b, off, ha, hb, hj⟩ := hc h0
  refine ⟨b, off, ha, hb, fun j hjl => ?_⟩
  obtain ⟨cs, hlen, hr, hcs⟩ := hj j hjl
  have hr2 : cs = [.int .i64 (l.getD j default)] := hr
  subst hr2
  have := hcs 0 _ rfl
  simpa using this
theorem nums_end {f : Nat} {l : List MTok} {acc : List Int} (h : qSees l mClose = true) : qNums (f + 1) l acc = some (acc, l) := by
  unfold qNums; rw [h]; rfl
theorem nums_more {f : Nat} {l : List MTok} {acc : List Int} (h : qSees l mClose = false) : qNums (f + 1) l acc = andQ (qNum l) fun x r => qNums f r (acc ++ [x]) := by
  show (if qSees l mClose then _ else _) = _
  rw [if_neg (by rw [h]; simp)]
set_option maxHeartbeats 4000000 in
set_option maxRecDepth 100000 in
theorem corder_is (bx : Nat) (l0 : List MTok) (w : World) (h : PQ bx l0 w) :
    Calls Tryz.prog 67 #[.pointer (some ⟨bx, 0, none⟩)] w fun e w' => ToldM bx w (fun xs v V => IntsIn (fun b => w.heap.size ≤ b) V v xs) (qOrder l0) e w' := by
  have hlt := h.lt
  have T1 := hid (ctext_is bx ⟨#[40]⟩ l0 w h)
  obtain ⟨qr, hqr⟩ : ∃ qr, qOrder l0 = qr := ⟨_, rfl⟩
  rw [hqr]
  have E0 := hid hqr.symm
  have F0 : Hid (l0.length ≤ 20000) := h.few
  clear hqr h
  obtain ⟨i0, hi, hz0, hz1, hz2⟩ := info_parts Tryz.infoInt
  have HI := hid hi
  have HZ0 := hid hz0
  have HZ1 := hid hz1
  have HZ2 := hid hz2
  clear hi hz0 hz1 hz2
  go_enter Tryz.func67, Tryz.ntmps67
  go_wp2_with fail
  go_at_call 58
  refine T1.out.mono ?_
  rintro e w1 h1
  have h1' : ToldQ bx _ _ (qText mOpen l0) e w1 := h1
  clear h1 T1
  cases hp : qText mOpen l0 with
  | none =>
    rw [hp] at h1'
    obtain ⟨rfl, b⟩ := h1'
    exact ⟨rfl, toldM_none (E0.out.trans (andQ_none hp)) rfl b⟩
  | some z =>
    obtain ⟨_, l1⟩ := z
    rw [hp] at h1'
    obtain ⟨p, rfl, b⟩ := h1'
    have E1 := hid (E0.out.trans (andQ_some hp))
    have FL : Hid (l1.length ≤ 20000) := p.few
    have P1 := hid p
    have B1 := hid b
    have hs1 := b.size
    have hbx1 := p.lt
    clear p b hp E0 F0
    go_wp2_with fail
    go_loopg [3] l1.length (fun gm lv wr => ∃ (L : List MTok) (acc : List Int) (rows : List (List Value)) (f : Nat), L.length ≤ gm ∧ Aside (PQ bx L wr) ∧ Aside (OutInv 3 1 RI w1.heap.size wr lv acc.length rows acc) ∧ Aside (Beside bx w wr) ∧ Aside (w1.heap.size ≤ wr.heap.size) ∧ Aside (qr = andQ (qNums f L acc) (fun xs l => andQ (qText mClose l) fun _ l => some (xs, l)) ∧ L.length < f ∧ acc.length + L.length ≤ 20000))
    case atStart => exact ⟨l1, [], [], l1.length + 1, Nat.le_refl _, P1.out, OutInv.nil _ _ _ _ _, B1.out, Nat.le_refl _, E1.out, by omega, by simpa using FL.out⟩
    case round =>
      clear P1 B1 E1 FL
      obtain ⟨L, acc, rows, f, hm, PK, OI, BW, SW, HY⟩ := hrel
      obtain ⟨la, lc, rfl⟩ := OutInv.sliceV OI.out
      have hsw := SW.out
      have S := hid (csees_is bx ⟨#[41]⟩ L wr PK.out)
      obtain ⟨f, rfl⟩ : ∃ f0, f = f0 + 1 := ⟨f - 1, by have := HY.out.2.1; omega⟩
      cases hs : qSees L ⟨#[41]⟩ with
      | false =>
        rw [hs] at S
        have hbx : bx < w1.heap.size := hbx1
        have HE : Hid (qr = andQ (andQ (qNum L) fun x r => qNums f r (acc ++ [x])) (fun xs l => andQ (qText mClose l) fun _ l => some (xs, l))) := by show _ = _; rw [HY.out.1, nums_more hs]
        have N := hid (cnum_is bx L wr PK.out)
        go_wp2_with (first | (go_at_call 62; refine S.out.mono ?_; rintro e w2 ⟨rfl, rfl⟩))
        go_at_call 59
        refine N.out.mono ?_
        rintro e w3 h3
        cases hp3 : qNum L with
        | none =>
          rw [hp3] at h3
          obtain ⟨rfl, b3⟩ := h3
          exact ⟨rfl, toldM_none (HE.out.trans (by rw [hp3]; rfl)) rfl (BW.out.trans b3)⟩
        | some z =>
          obtain ⟨x, l2⟩ := z
          rw [hp3] at h3
          obtain ⟨p3, rfl, b3⟩ := h3
          have hl2 := num_lt L x l2 hp3
          have HE2 : Hid (qr = andQ (qNums f l2 (acc ++ [x])) (fun xs l => andQ (qText mClose l) fun _ l => some (xs, l))) := by show _ = _; rw [HE.out, hp3]; rfl
          have P3H := hid p3
          have B3 := hid b3
          have hs3 := b3.size
          have HL := hid hl2
          clear p3 b3 hp3 HE hl2
          have O3 := hid (OutInv.beside ri_keep OI.out (B3.out.trans (Beside.of_below (below_box w3 (.cells #[.int .i64 x] 3)))) hbx)
          go_wp2_with (at_builtin; refine wpList_append_lies _ rfl _ _ 23 rfl w1.heap.size 3 i0 _ 1 8 Tryz.underlying23 HI.out HZ0.out HZ1.out HZ2.out rfl (by decide) (.slice la acc.length lc) acc.length rows.flatten rfl O3.out.own ⟨w3.heap.size, 0, none⟩ 1 1 [.int .i64 x] rfl rfl (World.news_of_block (cs := #[.int .i64 x]) (t := 3) (fr := (0, 0)) (heap_alloc_new w3 _)) (by simp [Value.oneCell']) (by decide) (by unfold maxLen; have := HY.out.2.2; omega) (by have := HY.out.2.2; omega) (by simp; omega) (w3.heap.size + 1) (by simp) ?_; intro g cap w4 hown hgrow hat hglt)
          have B3a : Beside bx wr (w3.alloc (.cells #[.int .i64 x] 3)) := B3.out.trans (Beside.of_below (below_box w3 _))
          have O4 := OutInv.grow ri_keep OI.out (row := [.int .i64 x]) (x := x) hsw hbx B3a rfl rfl hown hgrow (by simpa using hat)
          have hgs : w3.heap.size < w4.heap.size := by have := hgrow.size; simp at this; omega
          have B34 : Below w1.heap.size w3 w4 := ((Below.refl _ w3).alloc (by omega) _).grown hgrow (by simp; omega) (fun k hk => (OI.out.own.lt k hk).1)
          have O5 : OutInv 3 1 RI w1.heap.size w4 (.slice (some ⟨g, 0, none⟩) (acc.length + 1) cap) (acc ++ [x]).length (rows ++ [[.int .i64 x]]) (acc ++ [x]) := by simpa using O4
          go_roundg l2.length
          case measure => have := HL.out; omega
          case rel => exact ⟨l2, acc ++ [x], rows ++ [[Value.int .i64 x]], f, Nat.le_refl _, P3H.out.keep (B34.mono hbx), O5, (BW.out.trans B3.out).later (B34.mono hs1), (by show w1.heap.size ≤ w4.heap.size; omega), HE2.out, by have := HL.out; have := HY.out.2.1; omega, by have := HL.out; have := HY.out.2.2; simp; omega⟩
      | true =>
        rw [hs] at S
        have HE : Hid (qr = andQ (qText mClose L) (fun _ l => some (acc, l))) := HY.out.1.trans (by rw [nums_end hs]; rfl)
        have M := hid (ctext_is bx ⟨#[41]⟩ L wr PK.out)
        go_wp2_with (first | (go_at_call 62; refine S.out.mono ?_; rintro e w2 ⟨rfl, rfl⟩))
        go_at_call 58
        refine M.out.mono ?_
        rintro e w3 h3
        have h3' : ToldQ bx _ _ (qText mClose L) e w3 := h3
        clear h3 M
        cases hp3 : qText mClose L with
        | none =>
          rw [hp3] at h3'
          obtain ⟨rfl, b3⟩ := h3'
          exact ⟨rfl, toldM_none (HE.out.trans (by rw [hp3]; rfl)) rfl (BW.out.trans b3)⟩
        | some z =>
          obtain ⟨_, l2⟩ := z
          rw [hp3] at h3'
          obtain ⟨p3, rfl, b3⟩ := h3'
          have HE2 := hid (HE.out.trans (by rw [hp3]; rfl : _ = some (acc, l2)))
          have P3 := hid p3
          have B3 := hid b3
          clear p3 b3 hp3
          go_wp2_with fail
          go_ret
          refine toldM_some HE2.out P3.out ?_ (BW.out.trans B3.out)
          have OB := OutInv.beside ri_keep OI.out B3.out hbx1
          exact (ints_of_out OB (by have := HY.out.2.2; omega)).keep (fun _ _ _ => rfl) (fun b _ hb => Nat.le_trans hs1 hb)
end Go.Proofs.YtkpomcimaofkkaaGreatDoor.Rp
