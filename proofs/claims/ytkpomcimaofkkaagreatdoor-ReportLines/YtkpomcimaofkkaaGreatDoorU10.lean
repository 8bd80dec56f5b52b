/-
  The code's reader of a report's text: the report.
-/
import Derived.Test.YtkpomcimaofkkaaGreatDoorU9
namespace Go.Proofs.YtkpomcimaofkkaaGreatDoor.Rp
set_option linter.unusedVariables false
set_option linter.unusedSimpArgs false
open Go.RowKit Go.Lib

/-- Anomalies within blocks of S. -/
abbrev AnsS (S : Nat → Prop) (w : World) (v : Value) (l : List MA) : Prop := RowsIn 9 96 (AnS S w) S w v l
theorem AnsS.keep {S T : Nat → Prop} {w w' : World} {v : Value} {l : List MA} (h : AnsS S w v l) (hk : KeepsIn S w w') (hT : ∀ b, b < w.heap.size → S b → T b) : AnsS T w' v l :=
  RowsIn.keep h (by omega) (fun _ _ hr => anS_keep _ _ _ _ _ _ hr hk hT) hk hT
/-- A report as a value. -/
def RepV (S : Nat → Prop) (w : World) (v : Value) (r : MR) : Prop := ∃ aa ac oa oc, v = .agg (encR r (.slice aa r.2.2.1.length ac) (.slice oa r.2.2.2.2.2.length oc)) ∧ AnsS S w (.slice aa r.2.2.1.length ac) r.2.2.1 ∧ IntsIn S w (.slice oa r.2.2.2.2.2.length oc) r.2.2.2.2.2
theorem ans_end {f : Nat} {l : List MTok} {acc : List MA} (h : qSees l wAnomaly = false) : qAns (f + 1) l acc = some (acc, l) := by
  unfold qAns; rw [h]; rfl
theorem ans_more {f : Nat} {l : List MTok} {acc : List MA} (h : qSees l wAnomaly = true) : qAns (f + 1) l acc = andQ (qAn l) fun x r => andQ (qLineEnd r) fun _ r => qAns f r (acc ++ [x]) := by
  show (if qSees l wAnomaly then _ else _) = _
  rw [if_pos h]
/-- The answer's box, and that what lies from B on is as it was. -/
structure BoxK (B bx o : Nat) (wr V : World) (rv : Nat) (t : TypeId) (cs : Array Value) : Prop where
  box : BoxW V rv t cs
  keep : ∀ b, B ≤ b → b < wr.heap.size → V.heap[b]? = wr.heap[b]?
  hx : bx < B
  ho : o < B
  sz : wr.heap.size ≤ V.heap.size
section
variable {B bx o : Nat} {wr V V' : World} {rv : Nat} {t : TypeId} {cs : Array Value}
theorem BoxK.beside (h : BoxK B bx o wr V rv t cs) (hb : Beside bx V V') (hn : rv ≠ bx) : BoxK B bx o wr V' rv t cs :=
  ⟨h.box.beside hb hn, fun b h1 h2 => (hb.block b (Nat.lt_of_lt_of_le h2 h.sz) (by have := h.hx; omega)).trans (h.keep b h1 h2), h.hx, h.ho, Nat.le_trans h.sz hb.size⟩
theorem BoxK.later (h : BoxK B bx o wr V rv t cs) (hb : Below V.heap.size V V') : BoxK B bx o wr V' rv t cs :=
  ⟨h.box.later hb, fun b h1 h2 => (hb.block b (Nat.lt_of_lt_of_le h2 h.sz)).trans (h.keep b h1 h2), h.hx, h.ho, Nat.le_trans h.sz hb.size⟩
theorem BoxK.other {i : Nat} {u : Value} (h : BoxK B bx o wr V rv t cs) (hg : rv ≠ o) : BoxK B bx o wr (V.setCell ⟨o, i, none⟩ u) rv t cs := by
  refine ⟨h.box.other hg, fun b h1 h2 => ?_, h.hx, h.ho, by simpa [World.setCell] using h.sz⟩
  refine Eq.trans ?_ (h.keep b h1 h2)
  simp only [World.setCell, Array.getElem?_modify]
  rw [if_neg (by have := h.ho; omega)]
theorem BoxK.cell (h : BoxK B bx o wr V rv t cs) (j : Nat) : V.cell? ⟨rv, j, none⟩ = cs[j]? := h.box.cell j
theorem BoxK.soft (h : BoxK B bx o wr V rv t cs) (j : Nat) : V.frozen? ⟨rv, j, none⟩ = false := h.box.soft j
end
theorem keeps_set {S : Nat → Prop} {rv i : Nat} {u : Value} {w w' : World} (h : KeepsIn S w w') (hn : ∀ b, S b → b ≠ rv) : KeepsIn S w (w'.setCell ⟨rv, i, none⟩ u) := by
  intro b hb hlt
  refine Eq.trans ?_ (h b hb hlt)
  simp only [World.setCell, Array.getElem?_modify]
  rw [if_neg (fun c => hn b hb c.symm)]
set_option maxHeartbeats 16000000 in
set_option maxRecDepth 100000 in
theorem creport_is (bx : Nat) (T0 : List MTok) (w : World) (h : PQ bx T0 w) (hN : NamesAt w) (hb0 : 0 ≠ bx) :
    Calls Tryz.prog 18 #[.pointer (some ⟨bx, 0, none⟩)] w fun e w' => ToldM bx w (fun r v V => RepV (fun b => w.heap.size ≤ b) V v r) (qRep T0) e w' := by
  have NM : Hid (∀ V, Beside bx w V → NamesAt V) := fun V hb => hN.beside hb hb0
  have A1 := hid (below_box w (.cells #[.int .i64 0, .bool false, .slice none 0 0, .int .i64 0, .int .i64 0, .slice none 0 0] 25))
  obtain ⟨w00, hw00⟩ : ∃ w00, w.alloc (.cells #[.int .i64 0, .bool false, .slice none 0 0, .int .i64 0, .int .i64 0, .slice none 0 0] 25) = w00 := ⟨_, rfl⟩
  obtain ⟨w0, hw0⟩ : ∃ w0, w00.alloc (.cells #[.int .i64 0, .bool false, .slice none 0 0, .int .i64 0, .int .i64 0, .slice none 0 0] 25) = w0 := ⟨_, rfl⟩
  obtain ⟨rv, hrv⟩ : ∃ rv, w.heap.size = rv := ⟨_, rfl⟩
  obtain ⟨o, ho⟩ : ∃ o, w00.heap.size = o := ⟨_, rfl⟩
  have hor : o = rv + 1 := by rw [← ho, ← hw00, ← hrv]; simp
  have BL : Below w.heap.size w w0 := by rw [← hw0, ← hw00]; exact (below_box w _).trans ((below_box _ _).mono (by simp))
  have P0 := hid (h.later BL)
  have B0 : Hid (Beside bx w w0) := Beside.of_below BL
  have H0 : Hid (BoxW w0 o 25 #[.int .i64 0, .bool false, .slice none 0 0, .int .i64 0, .int .i64 0, .slice none 0 0]) := by rw [← hw0, ← ho]; exact box_new _ _ _
  have R0 : Hid (BoxW w0 rv 25 #[.int .i64 0, .bool false, .slice none 0 0, .int .i64 0, .int .i64 0, .slice none 0 0]) := by rw [← hw0, ← hrv]; exact (by rw [← hw00]; exact box_new w _ _ : BoxW w00 w.heap.size 25 #[.int .i64 0, .bool false, .slice none 0 0, .int .i64 0, .int .i64 0, .slice none 0 0]).later (below_box _ _)
  have hlt := h.lt
  have hO : bx < o := by omega
  have nO : o ≠ bx := by omega
  have nR : rv ≠ bx := by omega
  have nRO : rv ≠ o := by omega
  have hRv : bx < rv := by omega
  have nO2 : w.heap.size ≤ o := by omega
  have nR2 : w.heap.size ≤ rv := by omega
  obtain ⟨qr, hqr⟩ : ∃ qr, qRep T0 = qr := ⟨_, rfl⟩
  rw [hqr]
  have EE := hid hqr.symm
  have F0 : Hid (T0.length ≤ 20000) := h.few
  clear hqr
  obtain ⟨l0, hl0⟩ : ∃ l0, qLines T0 = l0 := ⟨_, rfl⟩
  have E0 : Hid (qr = andQ (qText wTxns l0) fun _ l => andQ (qNum l) fun n l => andQ (qLineEnd l) fun _ l => andQ (qText wUnique l) fun _ l => andQ (qEither wYes wNo l) fun u l => andQ (qLineEnd l) fun _ l =>
  andQ (qAns (l.length + 1) l []) fun a l => andQ (qText wLevel l) fun _ l => andQ (qOne levelWs l) fun e l => andQ (qLineEnd l) fun _ l => andQ (qText wAnswer l) fun _ l => andQ (qOne answerWs l) fun w l =>
  if w = 1 then andQ (qOrder l) fun xs l => qEnd (n, u, a, e, w, xs) l else qEnd (n, u, a, e, w, []) l) := by show _ = _; rw [EE.out, ← hl0]; rfl
  clear EE
  clear h BL hor
  go_enter Tryz.func18, Tryz.ntmps18
  go_wp2_with fail
  clear hw00 hw0 hrv ho A1
  have CE := hid (cempty_is bx T0 w0 P0.out)
  go_at_call 57
  refine CE.out.mono ?_
  rintro e we ⟨rfl, pe, be⟩
  rw [hl0] at pe
  have B0e := hid (B0.out.trans be)
  have H0e := hid (H0.out.beside be nO)
  have R0e := hid (R0.out.beside be nR)
  have P0e := hid pe
  clear CE pe be P0 B0 H0 R0 F0 hl0
  have P0 := P0e
  have B0 := B0e
  have H0 := H0e
  have R0 := R0e
  clear P0e B0e H0e R0e
  have C0 := hid (ctext_is bx ⟨#[116, 120, 110, 115]⟩ l0 (we) P0.out)
  go_wp2_with fail
  go_at_call 58
  refine C0.out.mono ?_
  rintro e w1 h0
  have h0' : ToldQ bx _ _ (qText wTxns l0) e w1 := h0
  clear h0 C0
  cases hp0 : qText wTxns l0 with
  | none =>
    rw [hp0] at h0'
    obtain ⟨rfl, b⟩ := h0'
    exact ⟨rfl, toldM_none (E0.out.trans (andQ_none hp0)) rfl (B0.out.trans b)⟩
  | some z =>
    obtain ⟨_, l1⟩ := z
    rw [hp0] at h0'
    obtain ⟨p, rfl, b⟩ := h0'
    have E1 := hid (E0.out.trans (andQ_some hp0))
    have B1' := hid (B0.out.trans b)
    have H1' := hid (H0.out.beside b nO)
    have R1' := hid (R0.out.beside b nR)
    have P1 := hid p
    have B1 := B1'
    have H1 := H1'
    have R1 := R1'
    clear p b hp0 E0 P0 B0 H0 R0 B1' H1' R1'
    have C1 := hid (cnum_is bx l1 (w1) P1.out)
    go_wp2_with fail
    go_at_call 59
    refine C1.out.mono ?_
    rintro e w2 h1
    have h1' : ToldQ bx _ _ (qNum l1) e w2 := h1
    clear h1 C1
    cases hp1 : qNum l1 with
    | none =>
      rw [hp1] at h1'
      obtain ⟨rfl, b⟩ := h1'
      exact ⟨rfl, toldM_none (E1.out.trans (andQ_none hp1)) rfl (B1.out.trans b)⟩
    | some z =>
      obtain ⟨y0, l2⟩ := z
      rw [hp1] at h1'
      obtain ⟨p, rfl, b⟩ := h1'
      have E2 := hid (E1.out.trans (andQ_some hp1))
      have B2' := hid (B1.out.trans b)
      have H2' := hid (H1.out.beside b nO)
      have R2' := hid (R1.out.beside b nR)
      have s1 := H2'.out.cell 0
      have f1 := H2'.out.soft 0
      replace s1 : w2.cell? ⟨o, 0, none⟩ = some (.int .i64 0) := s1
      have P2 := hid (p.other (i := 0) hO (.int .i64 y0))
      have B2 := hid (B2'.out.setNew (p := ⟨o, 0, none⟩) nO2 (.int .i64 y0))
      have H2 : Hid (BoxW (w2.setCell ⟨o, 0, none⟩ (.int .i64 y0)) o 25 #[.int .i64 y0, .bool false, .slice none 0 0, .int .i64 0, .int .i64 0, .slice none 0 0]) := H2'.out.set (i := 0) (u := .int .i64 y0) rfl
      have R2 := hid (R2'.out.other (i := 0) (u := .int .i64 y0) nRO)
      clear p b hp1 E1 P1 B1 H1 R1 B2' H2' R2'
      have C2 := hid (clineEnd_is bx l2 (w2.setCell ⟨o, 0, none⟩ (.int .i64 y0)) P2.out)
      go_wp2_with fail
      go_at_call 60
      refine C2.out.mono ?_
      rintro e w3 h2
      have h2' : ToldQ bx _ _ (qLineEnd l2) e w3 := h2
      clear h2 C2
      cases hp2 : qLineEnd l2 with
      | none =>
        rw [hp2] at h2'
        obtain ⟨rfl, b⟩ := h2'
        exact ⟨rfl, toldM_none (E2.out.trans (andQ_none hp2)) rfl (B2.out.trans b)⟩
      | some z =>
        obtain ⟨_, l3⟩ := z
        rw [hp2] at h2'
        obtain ⟨p, rfl, b⟩ := h2'
        have E3 := hid (E2.out.trans (andQ_some hp2))
        have B3' := hid (B2.out.trans b)
        have H3' := hid (H2.out.beside b nO)
        have R3' := hid (R2.out.beside b nR)
        have P3 := hid p
        have B3 := B3'
        have H3 := H3'
        have R3 := R3'
        clear p b hp2 E2 P2 B2 H2 R2 B3' H3' R3'
        have C3 := hid (ctext_is bx ⟨#[117, 110, 105, 113, 117, 101]⟩ l3 (w3) P3.out)
        go_wp2_with fail
        go_at_call 58
        refine C3.out.mono ?_
        rintro e w4 h3
        have h3' : ToldQ bx _ _ (qText wUnique l3) e w4 := h3
        clear h3 C3
        cases hp3 : qText wUnique l3 with
        | none =>
          rw [hp3] at h3'
          obtain ⟨rfl, b⟩ := h3'
          exact ⟨rfl, toldM_none (E3.out.trans (andQ_none hp3)) rfl (B3.out.trans b)⟩
        | some z =>
          obtain ⟨_, l4⟩ := z
          rw [hp3] at h3'
          obtain ⟨p, rfl, b⟩ := h3'
          have E4 := hid (E3.out.trans (andQ_some hp3))
          have B4' := hid (B3.out.trans b)
          have H4' := hid (H3.out.beside b nO)
          have R4' := hid (R3.out.beside b nR)
          have P4 := hid p
          have B4 := B4'
          have H4 := H4'
          have R4 := R4'
          clear p b hp3 E3 P3 B3 H3 R3 B4' H4' R4'
          have C4 := hid (ceither_is bx ⟨#[121, 101, 115]⟩ ⟨#[110, 111]⟩ l4 (w4) P4.out)
          go_wp2_with fail
          go_at_call 61
          refine C4.out.mono ?_
          rintro e w5 h4
          have h4' : ToldQ bx _ _ (qEither wYes wNo l4) e w5 := h4
          clear h4 C4
          cases hp4 : qEither wYes wNo l4 with
          | none =>
            rw [hp4] at h4'
            obtain ⟨rfl, b⟩ := h4'
            exact ⟨rfl, toldM_none (E4.out.trans (andQ_none hp4)) rfl (B4.out.trans b)⟩
          | some z =>
            obtain ⟨y1, l5⟩ := z
            rw [hp4] at h4'
            obtain ⟨p, rfl, b⟩ := h4'
            have E5 := hid (E4.out.trans (andQ_some hp4))
            have B5' := hid (B4.out.trans b)
            have H5' := hid (H4.out.beside b nO)
            have R5' := hid (R4.out.beside b nR)
            have s4 := H5'.out.cell 1
            have f4 := H5'.out.soft 1
            replace s4 : w5.cell? ⟨o, 1, none⟩ = some (.bool false) := s4
            have P5 := hid (p.other (i := 1) hO (.bool y1))
            have B5 := hid (B5'.out.setNew (p := ⟨o, 1, none⟩) nO2 (.bool y1))
            have H5 : Hid (BoxW (w5.setCell ⟨o, 1, none⟩ (.bool y1)) o 25 #[.int .i64 y0, .bool y1, .slice none 0 0, .int .i64 0, .int .i64 0, .slice none 0 0]) := H5'.out.set (i := 1) (u := .bool y1) rfl
            have R5 := hid (R5'.out.other (i := 1) (u := .bool y1) nRO)
            clear p b hp4 E4 P4 B4 H4 R4 B5' H5' R5'
            have C5 := hid (clineEnd_is bx l5 (w5.setCell ⟨o, 1, none⟩ (.bool y1)) P5.out)
            go_wp2_with fail
            go_at_call 60
            refine C5.out.mono ?_
            rintro e w6 h5
            have h5' : ToldQ bx _ _ (qLineEnd l5) e w6 := h5
            clear h5 C5
            cases hp5 : qLineEnd l5 with
            | none =>
              rw [hp5] at h5'
              obtain ⟨rfl, b⟩ := h5'
              exact ⟨rfl, toldM_none (E5.out.trans (andQ_none hp5)) rfl (B5.out.trans b)⟩
            | some z =>
              obtain ⟨_, l6⟩ := z
              rw [hp5] at h5'
              obtain ⟨p, rfl, b⟩ := h5'
              have E6 := hid (E5.out.trans (andQ_some hp5))
              have B6' := hid (B5.out.trans b)
              have H6' := hid (H5.out.beside b nO)
              have R6' := hid (R5.out.beside b nR)
              have P6 := hid p
              have B6 := B6'
              have H6 := H6'
              have R6 := R6'
              clear p b hp5 E5 P5 B5 H5 R5 B6' H6' R6'
              obtain ⟨B, hB⟩ : ∃ B, (w6).heap.size = B := ⟨_, rfl⟩
              have hoB : o < B := by rw [← hB]; exact H6.out.lt
              have hrB : rv < B := by rw [← hB]; exact R6.out.lt
              have hxB : bx < B := by rw [← hB]; exact P6.out.lt
              have hwB : w.heap.size ≤ B := by rw [← hB]; exact B6.out.size
              have SZ : Hid (B ≤ (w6).heap.size) := by rw [← hB]; exact Nat.le_refl _
              have FW := hid P6.out.few
              clear hB
              obtain ⟨rest, hrest⟩ : ∃ rest : List MA → List MTok → Qs MR, rest = (fun a l => andQ (qText wLevel l) fun _ l => andQ (qOne levelWs l) fun e l => andQ (qLineEnd l) fun _ l => andQ (qText wAnswer l) fun _ l => andQ (qOne answerWs l) fun w l => if w = 1 then andQ (qOrder l) fun xs l => qEnd (y0, y1, a, e, w, xs) l else qEnd (y0, y1, a, e, w, []) l) := ⟨_, rfl⟩
              have EL : Hid (qr = andQ (qAns (l6.length + 1) l6 []) rest) := by show _ = _; rw [hrest]; exact E6.out
              clear E6
              have HRE := hid hrest
              clear hrest
              go_wp2_with fail
              go_loopg [] l6.length (fun gm wr => ∃ (L : List MTok) (xs : List MA) (ta : Option Addr) (tc : Nat) (rows : List (List Value)) (f : Nat), L.length ≤ gm ∧ Aside (PQ bx L wr ∧ Beside bx w wr ∧ BoxW wr o 25 #[.int .i64 y0, .bool y1, .slice ta xs.length tc, .int .i64 0, .int .i64 0, .slice none 0 0] ∧ BoxW wr rv 25 #[.int .i64 0, .bool false, .slice none 0 0, .int .i64 0, .int .i64 0, .slice none 0 0] ∧ OutInv 68 9 AnS B wr (.slice ta xs.length tc) xs.length rows xs ∧ B ≤ wr.heap.size) ∧ Aside (qr = andQ (qAns f L xs) rest ∧ L.length < f ∧ xs.length + L.length ≤ 20000))
              case atStart => exact ⟨l6, [], none, 0, [], l6.length + 1, Nat.le_refl _, ⟨P6.out, B6.out, H6.out, R6.out, OutInv.nil _ _ _ _ _, SZ.out⟩, ⟨EL.out, by omega, by simpa using FW.out⟩⟩
              case round =>
                clear P6 B6 H6 R6 SZ FW EL
                obtain ⟨l7, xs, ta, tc, rows, f, hg, HX, HY⟩ := hrel
                have S := hid (csees_is bx ⟨#[97, 110, 111, 109, 97, 108, 121]⟩ l7 wr HX.out.1)
                cases hs : qSees l7 ⟨#[97, 110, 111, 109, 97, 108, 121]⟩ with
                | true =>
                  rw [hs] at S
                  go_wp2_with (go_at_call 62; refine S.out.mono ?_; rintro e w2 ⟨rfl, rfl⟩)
                  obtain ⟨f, rfl⟩ : ∃ f0, f = f0 + 1 := ⟨f - 1, by have := HY.out.2.1; omega⟩
                  have HD := hid (can_is bx l7 wr.drew (HX.out.1.keep (below_drew1 (Below.refl _ _))) ((NM.out _ HX.out.2.1).later (below_drew1 (Below.refl _ _))) hb0)
                  have hE := ans_more (f := f) (acc := xs) hs
                  have HE : Hid (qr = andQ (andQ (qAn l7) fun x r => andQ (qLineEnd r) fun _ r => qAns f r (xs ++ [x])) rest) := by show _ = _; rw [← hE]; exact HY.out.1
                  clear hE
                  have HO := hid HX.out.2.2.1
                  have HO6 := HO.out.cell 2
                  refine wp_region_ap Tryz.mixedOrders (fun val => { tmps := #[_, _, _, _, _, _, _, _, _, _, _, _, _, _, _, _, _, _, _, _, _, _, val 0, val 1, val 2, val 3, val 4, val 5, val 6, _, _, _, _, _, _, _, _, _, _, _, _, _, _, _, _, _, _, _, _, _, _, _, _, _, _, _, _, _, _, _], defers := [] }) (fun i => match i with | 0 => u22 | 1 => u23 | 2 => u24 | 3 => u25 | 4 => u26 | 5 => u27 | 6 => u28 | _ => undef) rfl o 2 (.pointer (some ⟨bx, 0, none⟩)) (.slice ta xs.length tc) (fun y => match y with | .agg cs => cs | _ => #[]) 68 (fun y V => ∃ a l2 ca cc, qAn l7 = some (a, l2) ∧ y = .agg (encA a (.slice ca a.cyc.length cc)).toArray ∧ PQ bx l2 V ∧ Beside bx wr V ∧ WhysS (fun b => wr.heap.size ≤ b) V (.slice ca a.cyc.length cc) a.cyc) (fun z V => ∃ a l2 rows2 g2 cap2, qAn l7 = some (a, l2) ∧ z = .slice (some ⟨g2, 0, none⟩) (xs.length + 1) cap2 ∧ OutInv 68 9 AnS B V z (xs.length + 1) rows2 (xs ++ [a]) ∧ PQ bx l2 V ∧ NearB bx B wr V) ?_ ?_ ?_ ?_ ?_ ?_ ?_ ?_ ?_ ?_ ?_ ?_ ?_ ?_ ?_ ?_ ?_ ?_ ?_ ?_ ?_
                  · exact fun _ _ => rfl
                  · exact fun _ _ => rfl
                  · exact fun _ _ => rfl
                  · exact fun _ _ => rfl
                  · exact fun _ _ => rfl
                  · exact fun _ _ => rfl
                  · exact fun _ _ => rfl
                  · exact fun _ _ => rfl
                  · intro val W
                    simp [execOp, Act.eval, go_sem]
                  · intro val W
                    simp [execOp, Act.eval, go_sem]
                  · intro val W h2
                    simp [execOp, Act.eval, go_sem, resolve, invoke, h2]
                  · intro val W
                    simp [execOp, Act.eval, go_sem]
                  · intro val W h0 hc
                    simp [execOp, Act.eval, go_sem, h0, hc]
                  · intro val W h3
                    obtain ⟨a, l2, ca, cc, hd, h3, hp, hb, hw⟩ := h3
                    have h3' : val 3 = .agg #[.int .i64 a.1, .int .i64 a.2.1, .int .i64 a.2.2.1, .int .i64 a.2.2.2.1, .string a.2.2.2.2.1, .int .i64 a.2.2.2.2.2.1, .slice ca a.cyc.length cc, .bool a.2.2.2.2.2.2.2.1, .int .i64 a.2.2.2.2.2.2.2.2] := h3
                    simp [execOp, Act.eval, go_sem, h3']
                  · intro val W h5 h6
                    obtain ⟨x, l2, rows2, g2, cap2, hd, h5, ho, hp, hn⟩ := h5
                    have e0 := (hn.box HO.out hoB nO).cell 2
                    have e1 := (hn.box HO.out hoB nO).soft 2
                    replace e0 : W.cell? ⟨o, 2, none⟩ = some (.slice ta xs.length tc) := e0
                    simp [execOp, Act.eval, go_sem, h5, h6, e0, e1]
                  · refine HD.out.mono (fun e V h => ?_)
                    cases hd : qAn l7 with
                    | none =>
                      rw [hd] at h
                      obtain ⟨rfl, hb⟩ := h
                      refine .inl ⟨_, rfl, fun val => ⟨rfl, toldM_none (by rw [HE.out, hd]; rfl) rfl ?_⟩⟩
                      exact HX.out.2.1.trans ((be_drew (Beside.refl _ _)).trans hb)
                    | some z =>
                      rw [hd] at h
                      obtain ⟨hp, ⟨v, rfl, ca, cc, hv, hw⟩, hb⟩ := h
                      exact .inr ⟨_, rfl, z.1, z.2, ca, cc, rfl, hv, hp, (be_drew (Beside.refl _ _)).trans hb, hw⟩
                  · exact HO6
                  · rintro y V ⟨x, l2, ca, cc, _, _, _, hb, _⟩
                    exact (hb.cell (p := ⟨o, 2, none⟩) HO.out.lt nO).trans HO6
                  · rintro z V ⟨x, l2, rows2, g2, cap2, _, _, _, _, hn⟩
                    exact (hn.box HO.out hoB nO).cell 2
                  · rintro val K y V ⟨a, l2, ca, cc, hd, rfl, hp, hb, hw⟩ h1 h4 hK
                    have OUT := HX.out.2.2.2.2.1
                    have hsz := HX.out.2.2.2.2.2
                    have hb1 : Below V.heap.size V (V.alloc (.cells (encA a (.slice ca a.cyc.length cc)).toArray 68)) := below_box V _
                    have hb2 : Beside bx wr (V.alloc (.cells (encA a (.slice ca a.cyc.length cc)).toArray 68)) := hb.trans (Beside.of_below hb1)
                    have OB := OutInv.beside anS_keep OUT hb2 hxB
                    refine wp_appendA B _ _ _ rfl (.slice ta xs.length tc) xs.length rows.flatten a ca a.cyc.length cc (show val 1 = _ from h1) V.heap.size (show val 4 = _ from h4) (heap_alloc_new V _) OB.own (Nat.le_trans hsz hb2.size) (by have := HY.out.2.2; omega) (fun g2 cap2 V5 ho hgr hat => ?_)
                    have hbb : Below B (V.alloc (.cells (encA a (.slice ca a.cyc.length cc)).toArray 68)) V5 := (Below.refl B _).grown hgr (Nat.le_trans hsz hb2.size) (fun b c => (OUT.own.lt b c).1)
                    refine hK _ V5 ⟨a, l2, rows ++ [encA a (.slice ca a.cyc.length cc)], g2, cap2, hd, rfl, OutInv.grow anS_keep OUT hsz hxB hb2 (row := encA a (.slice ca a.cyc.length cc)) (x := a) ⟨_, rfl, RowsIn.keep hw (by omega) (fun _ _ h => h) (keeps_below hb1) (fun _ _ h => h)⟩ rfl ho hgr hat, (hp.keep (hb1.mono hp.lt)).keep (hbb.mono hxB), ?_⟩
                    exact ⟨hbb.os.trans hb2.os, hbb.tape.trans hb2.tape, hbb.output.trans hb2.output, Nat.le_trans hb2.size hbb.size, fun b hlt hn => (hbb.block b hlt).trans (hb2.block b (Nat.lt_of_lt_of_le hlt hsz) hn)⟩
                  · rintro val z V ⟨a, l2, rows2, g2, cap2, hd, rfl, ho, hp, hn⟩
                    have hl2 := an_lt l7 a l2 hd
                    clear HO6
                    obtain ⟨V1, hV1⟩ : ∃ V1, V.setCell ⟨o, 2, none⟩ (.slice (some ⟨g2, 0, none⟩) (xs.length + 1) cap2) = V1 := ⟨_, rfl⟩
                    have hl3 : (xs ++ [a]).length = xs.length + 1 := by simp
                    have GX : Hid (PQ bx l2 V1 ∧ Beside bx w V1 ∧ BoxW V1 o 25 #[.int .i64 y0, .bool y1, .slice (some ⟨g2, 0, none⟩) (xs ++ [a]).length cap2, .int .i64 0, .int .i64 0, .slice none 0 0] ∧ BoxW V1 rv 25 #[.int .i64 0, .bool false, .slice none 0 0, .int .i64 0, .int .i64 0, .slice none 0 0] ∧ OutInv 68 9 AnS B V1 (.slice (some ⟨g2, 0, none⟩) (xs ++ [a]).length cap2) (xs ++ [a]).length rows2 (xs ++ [a]) ∧ B ≤ V1.heap.size) := by
                      rw [← hV1, hl3]
                      refine ⟨hp.other hO _, (hn.beside HX.out.2.1 hwB).setNew nO2 _, (hn.box HO.out hoB nO).set (i := 2) rfl, (hn.box HX.out.2.2.2.1 hrB nR).other nRO, OutInv.beside anS_keep ho ((Beside.refl o V).setCell (p := ⟨o, 2, none⟩) rfl _) hoB, ?_⟩
                      simpa [World.setCell] using Nat.le_trans HX.out.2.2.2.2.2 hn.size
                    rw [hV1]
                    have HDD := hid hd
                    have HL2 := hid hl2
                    clear hV1 ho hp hn hd hl2 hl3
                    have CL := hid (clineEnd_is bx l2 V1 GX.out.1)
                    go_wp2_with fail
                    go_at_call 60
                    refine CL.out.mono ?_
                    rintro e V2 h2
                    cases hq : qLineEnd l2 with
                    | none =>
                      rw [hq] at h2
                      obtain ⟨rfl, b⟩ := h2
                      exact ⟨rfl, toldM_none (by rw [HE.out, HDD.out]; show andQ (andQ (qLineEnd l2) fun _ r => qAns f r (xs ++ [a])) rest = none; rw [hq]; rfl) rfl (GX.out.2.1.trans b)⟩
                    | some z =>
                      obtain ⟨_, l3⟩ := z
                      rw [hq] at h2
                      obtain ⟨p, rfl, b⟩ := h2
                      have hl3 := lineEnd_lt l2 _ l3 hq
                      have HL3 := hid hl3
                      have HE3 : Hid (qr = andQ (qAns f l3 (xs ++ [a])) rest) := by show _ = _; rw [HE.out, HDD.out]; show andQ (andQ (qLineEnd l2) fun _ r => qAns f r (xs ++ [a])) rest = _; rw [hq]; rfl
                      have P3 := hid p
                      have B3 := hid b
                      clear p b hq hl3 CL
                      go_wp2_with fail
                      go_roundg l3.length
                      case measure => have := HL2.out; have := HL3.out; omega
                      case rel =>
                        refine ⟨l3, xs ++ [a], some ⟨g2, 0, none⟩, cap2, rows2, f, Nat.le_refl _, ⟨P3.out, GX.out.2.1.trans B3.out, GX.out.2.2.1.beside B3.out nO, GX.out.2.2.2.1.beside B3.out nR, OutInv.beside anS_keep GX.out.2.2.2.2.1 B3.out hxB, Nat.le_trans GX.out.2.2.2.2.2 B3.out.size⟩, ⟨HE3.out, ?_, ?_⟩⟩
                        · have := HL2.out; have := HL3.out; have := HY.out.2.1; omega
                        · have := HL2.out; have := HL3.out; have := HY.out.2.2; simp; omega
                | false =>
                  rw [hs] at S
                  obtain ⟨f, rfl⟩ : ∃ f0, f = f0 + 1 := ⟨f - 1, by have := HY.out.2.1; omega⟩
                  have E7 : Hid (qr = andQ (qText wLevel l7) fun _ l => andQ (qOne levelWs l) fun e l => andQ (qLineEnd l) fun _ l => andQ (qText wAnswer l) fun _ l => andQ (qOne answerWs l) fun w l => if w = 1 then andQ (qOrder l) fun xs1 l => qEnd (y0, y1, xs, e, w, xs1) l else qEnd (y0, y1, xs, e, w, []) l) := by show _ = _; rw [HY.out.1, ans_end hs, HRE.out]; rfl
                  have P7 := hid HX.out.1
                  have B7 := hid HX.out.2.1
                  have H7 := hid HX.out.2.2.1
                  have R7 : Hid (BoxK B bx o wr wr rv 25 #[.int .i64 0, .bool false, .slice none 0 0, .int .i64 0, .int .i64 0, .slice none 0 0]) := ⟨HX.out.2.2.2.1, fun _ _ _ => rfl, hxB, hoB, Nat.le_refl _⟩
                  have OA : Hid (AnsS (fun b => B ≤ b) wr (.slice ta xs.length tc) xs) := OutInv.rowsR (bytes := 96) anS_keep HX.out.2.2.2.2.1 (by have := HY.out.2.2; omega)
                  have WB : Hid (B ≤ wr.heap.size) := HX.out.2.2.2.2.2
                  have BWR : Hid (Beside bx wr wr) := Beside.refl _ _
                  have HNM : Hid (∀ V, Beside bx w V → NamesAt V) := NM.out
                  clear HX HY hs HRE hg
                  go_wp2_with (go_at_call 62; refine S.out.mono ?_; rintro e w2 ⟨rfl, rfl⟩)
                  clear S
                  have C7 := hid (ctext_is bx ⟨#[108, 101, 118, 101, 108]⟩ l7 (wr) P7.out)
                  go_wp2_with fail
                  go_at_call 58
                  refine C7.out.mono ?_
                  rintro e w8 h7
                  have h7' : ToldQ bx _ _ (qText wLevel l7) e w8 := h7
                  clear h7 C7
                  cases hp7 : qText wLevel l7 with
                  | none =>
                    rw [hp7] at h7'
                    obtain ⟨rfl, b⟩ := h7'
                    exact ⟨rfl, toldM_none (E7.out.trans (andQ_none hp7)) rfl (B7.out.trans b)⟩
                  | some z =>
                    obtain ⟨_, l8⟩ := z
                    rw [hp7] at h7'
                    obtain ⟨p, rfl, b⟩ := h7'
                    have E8 := hid (E7.out.trans (andQ_some hp7))
                    have B8' := hid (B7.out.trans b)
                    have H8' := hid (H7.out.beside b nO)
                    have R8' := hid (R7.out.beside b nR)
                    have P8 := hid p
                    have B8 := B8'
                    have H8 := H8'
                    have R8 := R8'
                    clear p b hp7 E7 P7 B7 H7 R7 B8' H8' R8'
                    have C8 := hid (clevel_is bx l8 (w8) P8.out (NM.out _ B8.out) hb0)
                    go_wp2_with fail
                    go_at_call 64
                    refine C8.out.mono ?_
                    rintro e w9 h8
                    have h8' : ToldQ bx _ _ (qOne levelWs l8) e w9 := h8
                    clear h8 C8
                    cases hp8 : qOne levelWs l8 with
                    | none =>
                      rw [hp8] at h8'
                      obtain ⟨rfl, b⟩ := h8'
                      exact ⟨rfl, toldM_none (E8.out.trans (andQ_none hp8)) rfl (B8.out.trans b)⟩
                    | some z =>
                      obtain ⟨y3, l9⟩ := z
                      rw [hp8] at h8'
                      obtain ⟨p, rfl, b⟩ := h8'
                      have E9 := hid (E8.out.trans (andQ_some hp8))
                      have B9' := hid (B8.out.trans b)
                      have H9' := hid (H8.out.beside b nO)
                      have R9' := hid (R8.out.beside b nR)
                      have s8 := H9'.out.cell 3
                      have f8 := H9'.out.soft 3
                      replace s8 : w9.cell? ⟨o, 3, none⟩ = some (.int .i64 0) := s8
                      have P9 := hid (p.other (i := 3) hO (.int .i64 y3))
                      have B9 := hid (B9'.out.setNew (p := ⟨o, 3, none⟩) nO2 (.int .i64 y3))
                      have H9 : Hid (BoxW (w9.setCell ⟨o, 3, none⟩ (.int .i64 y3)) o 25 #[.int .i64 y0, .bool y1, .slice ta xs.length tc, .int .i64 y3, .int .i64 0, .slice none 0 0]) := H9'.out.set (i := 3) (u := .int .i64 y3) rfl
                      have R9 := hid (R9'.out.other (i := 3) (u := .int .i64 y3) nRO)
                      clear p b hp8 E8 P8 B8 H8 R8 B9' H9' R9'
                      have C9 := hid (clineEnd_is bx l9 (w9.setCell ⟨o, 3, none⟩ (.int .i64 y3)) P9.out)
                      go_wp2_with fail
                      go_at_call 60
                      refine C9.out.mono ?_
                      rintro e w10 h9
                      have h9' : ToldQ bx _ _ (qLineEnd l9) e w10 := h9
                      clear h9 C9
                      cases hp9 : qLineEnd l9 with
                      | none =>
                        rw [hp9] at h9'
                        obtain ⟨rfl, b⟩ := h9'
                        exact ⟨rfl, toldM_none (E9.out.trans (andQ_none hp9)) rfl (B9.out.trans b)⟩
                      | some z =>
                        obtain ⟨_, l10⟩ := z
                        rw [hp9] at h9'
                        obtain ⟨p, rfl, b⟩ := h9'
                        have E10 := hid (E9.out.trans (andQ_some hp9))
                        have B10' := hid (B9.out.trans b)
                        have H10' := hid (H9.out.beside b nO)
                        have R10' := hid (R9.out.beside b nR)
                        have P10 := hid p
                        have B10 := B10'
                        have H10 := H10'
                        have R10 := R10'
                        clear p b hp9 E9 P9 B9 H9 R9 B10' H10' R10'
                        have C10 := hid (ctext_is bx ⟨#[97, 110, 115, 119, 101, 114]⟩ l10 (w10) P10.out)
                        go_wp2_with fail
                        go_at_call 58
                        refine C10.out.mono ?_
                        rintro e w11 h10
                        have h10' : ToldQ bx _ _ (qText wAnswer l10) e w11 := h10
                        clear h10 C10
                        cases hp10 : qText wAnswer l10 with
                        | none =>
                          rw [hp10] at h10'
                          obtain ⟨rfl, b⟩ := h10'
                          exact ⟨rfl, toldM_none (E10.out.trans (andQ_none hp10)) rfl (B10.out.trans b)⟩
                        | some z =>
                          obtain ⟨_, l11⟩ := z
                          rw [hp10] at h10'
                          obtain ⟨p, rfl, b⟩ := h10'
                          have E11 := hid (E10.out.trans (andQ_some hp10))
                          have B11' := hid (B10.out.trans b)
                          have H11' := hid (H10.out.beside b nO)
                          have R11' := hid (R10.out.beside b nR)
                          have P11 := hid p
                          have B11 := B11'
                          have H11 := H11'
                          have R11 := R11'
                          clear p b hp10 E10 P10 B10 H10 R10 B11' H11' R11'
                          have KW := hid (answers_is (w11))
                          go_wp2_with fail
                          go_at_call 66
                          refine KW.out.mono ?_
                          rintro e v11 ⟨rfl, hv11⟩
                          have B11w : Hid (Below (w11).heap.size (w11) v11) := by rw [← hv11]; exact below_box _ _
                          have WA : Hid (WordsAt v11 (w11).heap.size answerWs) := by rw [← hv11]; exact words_is _ _
                          have nW : (w11).heap.size ≠ bx := fun c => by have := P11.out.lt; omega
                          have P11v := hid (P11.out.later B11w.out)
                          have B11v := hid (B11.out.later' B11w.out)
                          have H11v := hid (H11.out.later B11w.out)
                          have R11v := hid (R11.out.later B11w.out)
                          obtain ⟨gw, hgw⟩ : ∃ gw, (w11).heap.size = gw := ⟨_, rfl⟩
                          rw [hgw] at WA nW
                          rw [hgw]
                          have C11 := hid (coneOf_is bx gw 4 answerWs l11 v11 P11v.out WA.out nW (by decide))
                          clear hv11 hgw KW P11 B11 H11 R11 B11w
                          go_wp2_with fail
                          go_at_call 65
                          refine C11.out.mono ?_
                          rintro e w12 h11
                          have h11' : ToldQ bx _ _ (qOne answerWs l11) e w12 := h11
                          clear h11 C11
                          cases hp11 : qOne answerWs l11 with
                          | none =>
                            rw [hp11] at h11'
                            obtain ⟨rfl, b⟩ := h11'
                            exact ⟨rfl, toldM_none (E11.out.trans (andQ_none hp11)) rfl (B11v.out.trans b)⟩
                          | some z =>
                            obtain ⟨y4, l12⟩ := z
                            rw [hp11] at h11'
                            obtain ⟨p, rfl, b⟩ := h11'
                            have E12 := hid (E11.out.trans (andQ_some hp11))
                            have B12' := hid (B11v.out.trans b)
                            have H12' := hid (H11v.out.beside b nO)
                            have R12' := hid (R11v.out.beside b nR)
                            have s11 := H12'.out.cell 4
                            have f11 := H12'.out.soft 4
                            replace s11 : w12.cell? ⟨o, 4, none⟩ = some (.int .i64 0) := s11
                            have P12 := hid (p.other (i := 4) hO (.int .i64 y4))
                            have B12 := hid (B12'.out.setNew (p := ⟨o, 4, none⟩) nO2 (.int .i64 y4))
                            have H12 : Hid (BoxW (w12.setCell ⟨o, 4, none⟩ (.int .i64 y4)) o 25 #[.int .i64 y0, .bool y1, .slice ta xs.length tc, .int .i64 y3, .int .i64 y4, .slice none 0 0]) := H12'.out.set (i := 4) (u := .int .i64 y4) rfl
                            have R12 := hid (R12'.out.other (i := 4) (u := .int .i64 y4) nRO)
                            clear p b hp11 E11 P11v B11v H11v R11v B12' H12' R12' WA nW
                            have c4 : (w12.setCell ⟨o, 4, none⟩ (.int .i64 y4)).cell? ⟨o, 4, none⟩ = some (.int .i64 y4) := H12.out.cell 4
                            by_cases hw : y4 = 1
                            · have hb4 : (y4 == 1) = true := by simpa using hw
                              have E13 : Hid (qr = andQ (qOrder l12) fun xs1 l => qEnd (y0, y1, xs, y3, y4, xs1) l) := E12.out.trans (if_pos hw)
                              have CO := hid (corder_is bx l12 (w12.setCell ⟨o, 4, none⟩ (.int .i64 y4)) P12.out)
                              clear hw
                              go_wp2_with fail
                              go_at_call 67
                              refine CO.out.mono ?_
                              rintro e w13 h12
                              clear CO c4 hb4
                              cases hp12 : qOrder l12 with
                              | none =>
                                rw [hp12] at h12
                                obtain ⟨rfl, b⟩ := h12
                                exact ⟨rfl, toldM_none (E13.out.trans (by rw [hp12]; rfl)) rfl (B12.out.trans b)⟩
                              | some z =>
                                obtain ⟨xs1, l13⟩ := z
                                rw [hp12] at h12
                                obtain ⟨p, ⟨v, rfl, hv⟩, b⟩ := h12
                                obtain ⟨oa, oc, rfl, hvl, hvj⟩ := id hv
                                clear hvl hvj
                                have E14 : Hid (qr = qEnd (y0, y1, xs, y3, y4, xs1) l13) := E13.out.trans (by rw [hp12]; rfl)
                                have H13' := hid (H12.out.beside b nO)
                                have s5 := H13'.out.cell 5
                                have f5 := H13'.out.soft 5
                                replace s5 : w13.cell? ⟨o, 5, none⟩ = some (.slice none 0 0) := s5
                                have P13 := hid (p.other (i := 5) hO (.slice oa xs1.length oc))
                                have B13 := hid ((B12.out.trans b).setNew (p := ⟨o, 5, none⟩) nO2 (.slice oa xs1.length oc))
                                have H13 : Hid (BoxW (w13.setCell ⟨o, 5, none⟩ (.slice oa xs1.length oc)) o 25 #[.int .i64 y0, .bool y1, .slice ta xs.length tc, .int .i64 y3, .int .i64 y4, .slice oa xs1.length oc]) := H13'.out.set (i := 5) (u := .slice oa xs1.length oc) rfl
                                have R13 := hid ((R12.out.beside b nR).other (i := 5) (u := .slice oa xs1.length oc) nRO)
                                have hBW : B ≤ (w12.setCell ⟨o, 4, none⟩ (.int .i64 y4)).heap.size := Nat.le_trans WB.out R12.out.sz
                                have OI : Hid (IntsIn (fun b => B ≤ b) (w13.setCell ⟨o, 5, none⟩ (.slice oa xs1.length oc)) (.slice oa xs1.length oc) xs1) := hv.keep (keeps_set (fun _ _ _ => rfl) (fun c hc e => by have : (w12.setCell ⟨o, 4, none⟩ (.int .i64 y4)).heap.size ≤ c := hc; omega)) (fun c _ hc => Nat.le_trans hBW hc)
                                clear p b hv hp12 E13 E12 H13' P12 B12 H12 R12 hBW
                                have CE := hid (cempty_is bx l13 (w13.setCell ⟨o, 5, none⟩ (.slice oa xs1.length oc)) P13.out)
                                go_wp2_with fail
                                go_at_call 57
                                refine CE.out.mono ?_
                                rintro e w14 ⟨rfl, p, b⟩
                                clear CE
                                have H14 := hid (H13.out.beside b nO)
                                have R14 := hid (R13.out.beside b nR)
                                have B14 := hid (B13.out.trans b)
                                have IO14 : Hid (IntsIn (fun b => B ≤ b) w14 (.slice oa xs1.length oc) xs1) := OI.out.keep (b.keepsIn hxB _ (fun _ h => h)) (fun _ _ h => h)
                                clear b P13 B13 H13 R13 OI
                                cases hq : qLines l13 with
                                | nil =>
                                  rw [hq] at p
                                  have P14 := hid p
                                  obtain ⟨v0, cb, ao, cc, rfl, hcc, hjj⟩ := p.left
                                  have cb' : w14.cell? ⟨bx, 0, none⟩ = some (.slice ao 0 cc) := cb
                                  clear cb hcc hjj p
                                  have hz : ¬ (0 : Int) < ((0 : Nat) : Int) := by omega
                                  have HE : Hid (qr = some ((y0, y1, xs, y3, y4, xs1), [])) := by show _ = _; rw [E14.out]; unfold qEnd; rw [hq]; rfl
                                  have c0 : w14.cell? ⟨o, 0, none⟩ = some (.int .i64 y0) := H14.out.cell 0
                                  have r0 : w14.cell? ⟨rv, 0, none⟩ = some (.int .i64 0) := R14.out.cell 0
                                  have f0 := R14.out.soft 0
                                  have c1 : w14.cell? ⟨o, 1, none⟩ = some (.bool y1) := H14.out.cell 1
                                  have r1 : w14.cell? ⟨rv, 1, none⟩ = some (.bool false) := R14.out.cell 1
                                  have f1 := R14.out.soft 1
                                  have c2 : w14.cell? ⟨o, 2, none⟩ = some (.slice ta xs.length tc) := H14.out.cell 2
                                  have r2 : w14.cell? ⟨rv, 2, none⟩ = some (.slice none 0 0) := R14.out.cell 2
                                  have f2 := R14.out.soft 2
                                  have c3 : w14.cell? ⟨o, 3, none⟩ = some (.int .i64 y3) := H14.out.cell 3
                                  have r3 : w14.cell? ⟨rv, 3, none⟩ = some (.int .i64 0) := R14.out.cell 3
                                  have f3 := R14.out.soft 3
                                  have c4 : w14.cell? ⟨o, 4, none⟩ = some (.int .i64 y4) := H14.out.cell 4
                                  have r4 : w14.cell? ⟨rv, 4, none⟩ = some (.int .i64 0) := R14.out.cell 4
                                  have f4 := R14.out.soft 4
                                  have c5 : w14.cell? ⟨o, 5, none⟩ = some (.slice oa xs1.length oc) := H14.out.cell 5
                                  have r5 : w14.cell? ⟨rv, 5, none⟩ = some (.slice none 0 0) := R14.out.cell 5
                                  have f5 := R14.out.soft 5
                                  go_wp2_with fail
                                  refine bodyPost_ret (v := .agg #[.int .i64 y0, .bool y1, .slice ta xs.length tc, .int .i64 y3, .int .i64 y4, .slice oa xs1.length oc]) (by simp [results, Tryz.results18, go_sem, r0, r1, r2, r3, r4, r5]) rfl ?_
                                  refine toldM_some HE.out ?_ ⟨ta, tc, oa, oc, rfl, ?_, ?_⟩ ?_
                                  · repeat (refine PQ.other ?_ hRv _)
                                    exact P14.out
                                  · refine AnsS.keep OA.out ?_ (fun c _ hc => Nat.le_trans hwB hc)
                                    repeat (refine keeps_set ?_ (fun c hc e => by have : B ≤ c := hc; omega))
                                    exact fun c hc hl => R14.out.keep c hc hl
                                  · refine IntsIn.keep IO14.out ?_ (fun c _ hc => Nat.le_trans hwB hc)
                                    repeat (refine keeps_set ?_ (fun c hc e => by have : B ≤ c := hc; omega))
                                    exact fun _ _ _ => rfl
                                  · repeat (refine Beside.setNew ?_ nR2 _)
                                    exact B14.out
                                | cons tk tl =>
                                  rw [hq] at p
                                  obtain ⟨v0, cb, ao, cc, rfl, hcc, hjj⟩ := p.left
                                  have hl1 : (tk :: tl).length = tl.length + 1 := rfl
                                  rw [hl1] at cb
                                  clear hcc hjj p hl1
                                  have hpos : (0 : Int) < (tl.length : Int) + 1 := by omega
                                  have HE : Hid (qr = none) := by show _ = _; rw [E14.out]; unfold qEnd; rw [hq]; rfl
                                  go_wp2_with (go_at_call 20; refine (giveUp_is _).mono ?_; rintro e w15 ⟨rfl, rfl⟩)
                                  exact ⟨rfl, toldM_none HE.out rfl B14.out⟩
                            · have hb4 : (y4 == 1) = false := by simpa using hw
                              have EN : Hid (qr = qEnd (y0, y1, xs, y3, y4, []) l12) := E12.out.trans (if_neg hw)
                              clear hw E12
                              have OI : Hid (IntsIn (fun b => B ≤ b) (w12.setCell ⟨o, 4, none⟩ (.int .i64 y4)) (.slice none 0 ([] : List Int).length) []) := ⟨none, 0, rfl, by simp, fun h => by simp at h⟩
                              have CE := hid (cempty_is bx l12 (w12.setCell ⟨o, 4, none⟩ (.int .i64 y4)) P12.out)
                              go_wp2_with fail
                              go_at_call 57
                              refine CE.out.mono ?_
                              rintro e w14 ⟨rfl, p, b⟩
                              clear CE
                              have H14 := hid (H12.out.beside b nO)
                              have R14 := hid (R12.out.beside b nR)
                              have B14 := hid (B12.out.trans b)
                              have IO14 : Hid (IntsIn (fun b => B ≤ b) w14 (.slice none 0 0) ([] : List Int)) := OI.out.keep (b.keepsIn hxB _ (fun _ h => h)) (fun _ _ h => h)
                              clear b P12 B12 H12 R12 OI
                              cases hq : qLines l12 with
                              | nil =>
                                rw [hq] at p
                                have P14 := hid p
                                obtain ⟨v0, cb, ao, cc, rfl, hcc, hjj⟩ := p.left
                                have cb' : w14.cell? ⟨bx, 0, none⟩ = some (.slice ao 0 cc) := cb
                                clear cb hcc hjj p
                                have hz : ¬ (0 : Int) < ((0 : Nat) : Int) := by omega
                                have HE : Hid (qr = some ((y0, y1, xs, y3, y4, ([] : List Int)), [])) := by show _ = _; rw [EN.out]; unfold qEnd; rw [hq]; rfl
                                have c0 : w14.cell? ⟨o, 0, none⟩ = some (.int .i64 y0) := H14.out.cell 0
                                have r0 : w14.cell? ⟨rv, 0, none⟩ = some (.int .i64 0) := R14.out.cell 0
                                have f0 := R14.out.soft 0
                                have c1 : w14.cell? ⟨o, 1, none⟩ = some (.bool y1) := H14.out.cell 1
                                have r1 : w14.cell? ⟨rv, 1, none⟩ = some (.bool false) := R14.out.cell 1
                                have f1 := R14.out.soft 1
                                have c2 : w14.cell? ⟨o, 2, none⟩ = some (.slice ta xs.length tc) := H14.out.cell 2
                                have r2 : w14.cell? ⟨rv, 2, none⟩ = some (.slice none 0 0) := R14.out.cell 2
                                have f2 := R14.out.soft 2
                                have c3 : w14.cell? ⟨o, 3, none⟩ = some (.int .i64 y3) := H14.out.cell 3
                                have r3 : w14.cell? ⟨rv, 3, none⟩ = some (.int .i64 0) := R14.out.cell 3
                                have f3 := R14.out.soft 3
                                have c4 : w14.cell? ⟨o, 4, none⟩ = some (.int .i64 y4) := H14.out.cell 4
                                have r4 : w14.cell? ⟨rv, 4, none⟩ = some (.int .i64 0) := R14.out.cell 4
                                have f4 := R14.out.soft 4
                                have c5 : w14.cell? ⟨o, 5, none⟩ = some (.slice none 0 0) := H14.out.cell 5
                                have r5 : w14.cell? ⟨rv, 5, none⟩ = some (.slice none 0 0) := R14.out.cell 5
                                have f5 := R14.out.soft 5
                                go_wp2_with fail
                                refine bodyPost_ret (v := .agg #[.int .i64 y0, .bool y1, .slice ta xs.length tc, .int .i64 y3, .int .i64 y4, .slice none 0 0]) (by simp [results, Tryz.results18, go_sem, r0, r1, r2, r3, r4, r5]) rfl ?_
                                refine toldM_some HE.out ?_ ⟨ta, tc, none, 0, rfl, ?_, ?_⟩ ?_
                                · repeat (refine PQ.other ?_ hRv _)
                                  exact P14.out
                                · refine AnsS.keep OA.out ?_ (fun c _ hc => Nat.le_trans hwB hc)
                                  repeat (refine keeps_set ?_ (fun c hc e => by have : B ≤ c := hc; omega))
                                  exact fun c hc hl => R14.out.keep c hc hl
                                · refine IntsIn.keep IO14.out ?_ (fun c _ hc => Nat.le_trans hwB hc)
                                  repeat (refine keeps_set ?_ (fun c hc e => by have : B ≤ c := hc; omega))
                                  exact fun _ _ _ => rfl
                                · repeat (refine Beside.setNew ?_ nR2 _)
                                  exact B14.out
                              | cons tk tl =>
                                rw [hq] at p
                                obtain ⟨v0, cb, ao, cc, rfl, hcc, hjj⟩ := p.left
                                have hl1 : (tk :: tl).length = tl.length + 1 := rfl
                                rw [hl1] at cb
                                clear hcc hjj p hl1
                                have hpos : (0 : Int) < (tl.length : Int) + 1 := by omega
                                have HE : Hid (qr = none) := by show _ = _; rw [EN.out]; unfold qEnd; rw [hq]; rfl
                                go_wp2_with (go_at_call 20; refine (giveUp_is _).mono ?_; rintro e w15 ⟨rfl, rfl⟩)
                                exact ⟨rfl, toldM_none HE.out rfl B14.out⟩
end Go.Proofs.YtkpomcimaofkkaaGreatDoor.Rp
