/-
  The code's parser of a history's text: an operation.
-/
import Derived.Test.YtegeiojcdjnmjaaGreatDoorL13
namespace Go.Proofs.YtegeiojcdjnmjaaGreatDoor
set_option linter.unusedVariables false
set_option linter.unusedSimpArgs false
open Go.RowKit

set_option maxHeartbeats 8000000 in
set_option maxRecDepth 100000 in
theorem op_is (bx n : Nat) (en : Int) (T : List MTok) (w : World) (h : PB bx en T n w) :
    Calls Tryz.prog 65 #[.pointer (some ⟨bx, 0, none⟩)] w (ToldR bx en T w (fun o v w' => OpV (fun b => w.heap.size ≤ b) w' v o) (pOp en (T.drop n))) := by
  have hlt := h.lt
  have A0 := hid (oc_new w 0 ⟨#[]⟩ 0 (.slice none 0 0) false false)
  have P0 := hid (fun o => h.keep ((below_box w o).mono h.lt))
  clear h
  go_enter Tryz.func65, Tryz.ntmps65
  go_wp2_with fail
  go_at_call 84
  refine (mark_is bx n en ⟨#[91]⟩ T _ (P0.out _)).mono ?_
  rintro e w1 h1
  cases hp1 : pMark en ⟨#[91]⟩ (T.drop n) with
  | error f =>
    rw [hp1] at h1
    obtain ⟨rfl, b1⟩ := h1
    refine ⟨rfl, ?_⟩
    show ToldR bx en T w _ (pOp en (T.drop n)) _ _
    rw [pOp_A, and_err hp1]
    exact ⟨rfl, (Beside.of_below (below_box w _)).trans b1⟩
  | ok z =>
    obtain ⟨u, l1⟩ := z
    rw [hp1] at h1
    obtain ⟨⟨m1, hm1, P1⟩, rfl, b1⟩ := h1
    have hm1' : l1 = T.drop m1 := hm1
    subst hm1'
    have HE1 : Hid (pOp en (T.drop n) = pOpA en (T.drop m1)) := by show _ = _; rw [pOp_A, and_ok hp1]
    have A1 := hid (A0.out.beside b1 (by omega))
    have B1 : Hid (Beside bx w w1) := (Beside.of_below (below_box w _)).trans b1
    have P1H := hid P1
    clear P1 b1 hm1 hp1 A0 P0
    have hs1 : w.heap.size < w1.heap.size := A1.out.lt
    go_wp2_with fail
    go_at_call 50
    refine (opWords_is _).mono ?_
    rintro e w2 ⟨rfl, b2⟩
    have A2 := hid (A1.out.beside (Beside.of_below (bx := bx) b2) (by omega))
    have B2 : Hid (Beside bx w w2) := B1.out.trans (Beside.of_below b2)
    have P2 := hid (P1H.out.keep (b2.mono P1H.out.lt))
    clear b2 A1 B1 P1H
    go_wp2_with fail
    go_at_call 63
    refine (kind_is bx m1 en T _ _ _ _ _ _ P2.out).mono ?_
    rintro e w3 h3'
    have h3 : Told bx en T w2 (fun x => .int .i64 x) (pKind en (T.drop m1) 0 pOpWords) e w3 := h3'
    clear h3'
    cases hp3 : pKind en (T.drop m1) 0 pOpWords with
    | error f =>
      rw [hp3] at h3
      obtain ⟨rfl, b3⟩ := h3
      refine ⟨rfl, ?_⟩
      show ToldR bx en T w _ (pOp en (T.drop n)) _ _
      rw [HE1.out]
      unfold pOpA
      rw [and_err hp3]
      exact ⟨rfl, B2.out.trans b3⟩
    | ok z =>
      obtain ⟨k, l2⟩ := z
      rw [hp3] at h3
      obtain ⟨⟨m3, hm3, P3⟩, rfl, b3⟩ := h3
      have hm3' : l2 = T.drop m3 := hm3
      subst hm3'
      have hkr := pKind_five hp3
      have HE3 : Hid (pOp en (T.drop n) = pOpB en k (T.drop m3)) := by show _ = _; rw [HE1.out]; unfold pOpA; rw [and_ok hp3]
      have A3 := hid (A2.out.beside b3 (by omega))
      have B3 : Hid (Beside bx w w3) := B2.out.trans b3
      have P3H := hid P3
      clear P3 b3 hm3 hp3 A2 B2 P2 HE1
      have hs3 : w.heap.size < w3.heap.size := A3.out.lt
      have hb3 : bx < w3.heap.size := P3H.out.lt
      have N0 := hid (oc_new w3 k ⟨#[]⟩ 0 (.slice none 0 0) false false)
      have HKR := hid hkr
      clear hkr
      go_wp2_with fail
      go_at_call 85
      refine (key_is bx m3 en T _ (P3H.out.keep ((below_box w3 _).mono hb3))).mono ?_
      rintro e w4 h4
      cases hp4 : pKey en (T.drop m3) with
      | error f =>
        rw [hp4] at h4
        obtain ⟨rfl, b4⟩ := h4
        refine ⟨rfl, ?_⟩
        show ToldR bx en T w _ (pOp en (T.drop n)) _ _
        rw [HE3.out]
        unfold pOpB
        rw [and_err hp4]
        exact ⟨rfl, B3.out.trans ((Beside.of_below (below_box w3 _)).trans b4)⟩
      | ok z =>
        obtain ⟨s, l3⟩ := z
        rw [hp4] at h4
        obtain ⟨⟨m4, hm4, P4⟩, rfl, b4⟩ := h4
        have hm4' : l3 = T.drop m4 := hm4
        subst hm4'
        have HE4 : Hid (pOp en (T.drop n) = pOpC en k s (T.drop m4)) := by show _ = _; rw [HE3.out]; unfold pOpB; rw [and_ok hp4]
        have O4 := hid (N0.out.beside b4 (by omega))
        have A4 := hid ((A3.out.beside (Beside.of_below (bx := bx) (below_box w3 _)) (by omega)).beside b4 (by omega))
        have B4 : Hid (Beside bx w w4) := B3.out.trans ((Beside.of_below (below_box w3 _)).trans b4)
        have P4H := hid P4
        clear P4 b4 hm4 hp4 A3 B3 P3H HE3 N0
        have hs4 : w3.heap.size < w4.heap.size := O4.out.lt
        have q0 := O4.out.c0
        have q1 := O4.out.c1
        have y1 := O4.out.z1
        have O5 := hid (O4.out.set1 s)
        have A5 := hid (A4.out.other (g := w3.heap.size) (i := 1) (by omega) (.string s))
        have B5 : Hid (Beside bx w (w4.setCell ⟨w3.heap.size, 1, none⟩ (.string s))) := B4.out.setNew (p := ⟨w3.heap.size, 1, none⟩) (by simp; omega) _
        have P5 := hid (P4H.out.set (g := w3.heap.size) (i := 1) hb3 (.string s))
        have hsA : w.heap.size < w3.heap.size := hs3
        clear O4 A4 B4 P4H
        have hkr := HKR.out
        clear HKR
        rcases hkr with rfl | rfl | rfl | rfl | rfl
        · have HE7 : Hid (pOp en (T.drop n) = pOpD en (0, s, 0, [], false, false) (T.drop m4)) := by show _ = _; rw [HE4.out]; unfold pOpC; rw [pMid_0]; rfl
          have O7 := O5
          have A7 := A5
          have B7 := B5
          have P7 := P5
          clear O5 A5 B5 P5 HE4
          have M := hid (fun W hW => mark_is bx (m4) en ⟨#[93]⟩ T W hW)
          go_wp2_with fail
          go_at_call 84
          refine (M.out _ P7.out).mono ?_
          rintro e w8 h8
          cases hp8 : pMark en ⟨#[93]⟩ (T.drop (m4)) with
          | error f =>
            rw [hp8] at h8
            obtain ⟨rfl, b8⟩ := h8
            refine ⟨rfl, ?_⟩
            show ToldR bx en T w _ (pOp en (T.drop n)) _ _
            rw [HE7.out]
            unfold pOpD
            rw [and_err hp8]
            exact ⟨rfl, B7.out.trans b8⟩
          | ok z =>
            obtain ⟨u8, l8⟩ := z
            rw [hp8] at h8
            obtain ⟨⟨m8, hm8, P8⟩, rfl, b8⟩ := h8
            have HE8 : Hid (pOp en (T.drop n) = .ok ((0, s, 0, [], false, false), l8)) := by show _ = _; rw [HE7.out]; unfold pOpD; rw [and_ok hp8]
            have HM8 := hid hm8
            have O8 := hid (O7.out.beside b8 (by omega))
            have A8 := hid (A7.out.beside b8 (by omega))
            have B8 : Hid (Beside bx w w8) := B7.out.trans b8
            have P8H := hid P8
            have B78 := hid b8
            clear hp8 hm8 P8 b8 O7 A7 B7 P7 HE7 M
            obtain ⟨o0, o1, o2, o3, o4, o5, p0, p1, p2, p3, p4, p5⟩ := O8.out
            obtain ⟨a0, a1, a2, a3, a4, a5, z0, z1, z2, z3, z4, z5⟩ := A8.out
            clear O8
            go_wp2_with fail
            rw [HE8.out]
            refine bodyPost_ret (v := .agg #[_, _, _, _, _, _]) (by simp [results, Tryz.results65, go_sem, a0, a1, a2, a3, a4, a5]) rfl ⟨⟨m8, HM8.out, P8H.out.put6 (by omega) _ _ _ _ _ _⟩, ⟨_, rfl, _, rfl, ints_none _ _⟩, be_put6 B8.out (Nat.le_refl _) _ _ _ _ _ _⟩

        · have N := hid (fun W hW => number_is bx m4 en T W hW)
          go_wp2_with fail
          go_at_call 86
          refine (N.out _ P5.out).mono ?_
          rintro e w5 h5
          cases hp5 : pNum en (T.drop m4) with
          | error f =>
            rw [hp5] at h5
            obtain ⟨rfl, b5⟩ := h5
            refine ⟨rfl, ?_⟩
            show ToldR bx en T w _ (pOp en (T.drop n)) _ _
            rw [HE4.out]
            unfold pOpC
            rw [pMid_1, and_err (and_err hp5)]
            exact ⟨rfl, B5.out.trans b5⟩
          | ok z =>
            obtain ⟨x, l5⟩ := z
            rw [hp5] at h5
            obtain ⟨⟨m5, hm5, P6'⟩, rfl, b5⟩ := h5
            have hm5' : l5 = T.drop m5 := hm5
            subst hm5'
            have HE7 : Hid (pOp en (T.drop n) = pOpD en (1, s, x, [], false, false) (T.drop m5)) := by show _ = _; rw [HE4.out]; unfold pOpC; rw [pMid_1, and_ok hp5]; rfl
            have O6 := hid (O5.out.beside b5 (by omega))
            have A6 := hid (A5.out.beside b5 (by omega))
            have B6 : Hid (Beside bx w w5) := B5.out.trans b5
            have P6 := hid P6'
            have hs5 : w3.heap.size < w5.heap.size := O6.out.lt
            clear P6' b5 hm5 hp5 O5 A5 B5 P5 HE4 N q0 q1 y1
            have x2 := O6.out.c2
            have y2 := O6.out.z2
            have O7 := hid ((O6.out).set2 x)
            have A7 := hid ((A6.out).other (g := w3.heap.size) (i := 2) (by omega) (.int .i64 x))
            have P7 := hid ((P6.out).set (g := w3.heap.size) (i := 2) hb3 (.int .i64 x))
            have B7 : Hid (Beside bx w (w5.setCell ⟨w3.heap.size, 2, none⟩ (.int .i64 x))) := (B6.out).setNew (p := ⟨w3.heap.size, 2, none⟩) (by simp; omega) (.int .i64 x)
            clear O6 A6 B6 P6
            have M := hid (fun W hW => mark_is bx (m5) en ⟨#[93]⟩ T W hW)
            go_wp2_with fail
            go_at_call 84
            refine (M.out _ P7.out).mono ?_
            rintro e w8 h8
            cases hp8 : pMark en ⟨#[93]⟩ (T.drop (m5)) with
            | error f =>
              rw [hp8] at h8
              obtain ⟨rfl, b8⟩ := h8
              refine ⟨rfl, ?_⟩
              show ToldR bx en T w _ (pOp en (T.drop n)) _ _
              rw [HE7.out]
              unfold pOpD
              rw [and_err hp8]
              exact ⟨rfl, B7.out.trans b8⟩
            | ok z =>
              obtain ⟨u8, l8⟩ := z
              rw [hp8] at h8
              obtain ⟨⟨m8, hm8, P8⟩, rfl, b8⟩ := h8
              have HE8 : Hid (pOp en (T.drop n) = .ok ((1, s, x, [], false, false), l8)) := by show _ = _; rw [HE7.out]; unfold pOpD; rw [and_ok hp8]
              have HM8 := hid hm8
              have O8 := hid (O7.out.beside b8 (by omega))
              have A8 := hid (A7.out.beside b8 (by omega))
              have B8 : Hid (Beside bx w w8) := B7.out.trans b8
              have P8H := hid P8
              have B78 := hid b8
              clear hp8 hm8 P8 b8 O7 A7 B7 P7 HE7 M
              obtain ⟨o0, o1, o2, o3, o4, o5, p0, p1, p2, p3, p4, p5⟩ := O8.out
              obtain ⟨a0, a1, a2, a3, a4, a5, z0, z1, z2, z3, z4, z5⟩ := A8.out
              clear O8
              go_wp2_with fail
              rw [HE8.out]
              refine bodyPost_ret (v := .agg #[_, _, _, _, _, _]) (by simp [results, Tryz.results65, go_sem, a0, a1, a2, a3, a4, a5]) rfl ⟨⟨m8, HM8.out, P8H.out.put6 (by omega) _ _ _ _ _ _⟩, ⟨_, rfl, _, rfl, ints_none _ _⟩, be_put6 B8.out (Nat.le_refl _) _ _ _ _ _ _⟩

        · cases hs : seesP (T.drop m4) 3 ⟨#[40]⟩ with
          | true =>
            have S := hid (fun W hW => sees_is bx m4 en 3 ⟨#[40]⟩ T W (by decide) hW)
            rw [hs] at S
            go_wp2_with fail
            go_at_call 66
            refine (S.out _ P5.out).mono ?_
            rintro e w5 ⟨rfl, b5⟩
            have P6 := hid (P5.out.keep (b5.mono P5.out.lt))
            have b5b : Beside bx (w4.setCell ⟨w3.heap.size, 1, none⟩ (.string s)) w5 := Beside.of_below b5
            have O6 := hid (O5.out.beside b5b (by omega))
            have A6 := hid (A5.out.beside b5b (by omega))
            have B6 : Hid (Beside bx w w5) := B5.out.trans b5b
            have hs5 : w3.heap.size < w5.heap.size := O6.out.lt
            clear b5 b5b O5 A5 B5 P5 S q0 q1 y1
            have x4 := O6.out.c4
            have y4 := O6.out.z4
            have O7 := hid ((O6.out).set4 true)
            have A7 := hid ((A6.out).other (g := w3.heap.size) (i := 4) (by omega) (.bool true))
            have P7 := hid ((P6.out).set (g := w3.heap.size) (i := 4) hb3 (.bool true))
            have B7 : Hid (Beside bx w (w5.setCell ⟨w3.heap.size, 4, none⟩ (.bool true))) := (B6.out).setNew (p := ⟨w3.heap.size, 4, none⟩) (by simp; omega) (.bool true)
            clear O6 A6 B6 P6
            have L := hid (fun W hW => list_is bx m4 en T W hW)
            go_wp2_with fail
            go_at_call 87
            refine (L.out _ P7.out).mono ?_
            rintro e w6 h6
            cases hp6 : pList en (T.drop m4) with
            | error f =>
              rw [hp6] at h6
              obtain ⟨rfl, b6⟩ := h6
              refine ⟨rfl, ?_⟩
              show ToldR bx en T w _ (pOp en (T.drop n)) _ _
              rw [HE4.out]
              unfold pOpC
              rw [pMid_2yes hs, and_err (and_err hp6)]
              exact ⟨rfl, B7.out.trans b6⟩
            | ok z =>
              obtain ⟨xs, l6⟩ := z
              rw [hp6] at h6
              obtain ⟨⟨m6, hm6, P6'⟩, ⟨lv, rfl, hlv⟩, b6⟩ := h6
              have hm6' : l6 = T.drop m6 := hm6
              subst hm6'
              have HE9 : Hid (pOp en (T.drop n) = pOpD en (2, s, 0, xs, true, false) (T.drop m6)) := by show _ = _; rw [HE4.out]; unfold pOpC; rw [pMid_2yes hs, and_ok hp6]; rfl
              have LV : Hid (IntsIn (fun b => w5.heap.size ≤ b) w6 lv xs) := hlv.keep (fun _ _ _ => rfl) (fun b _ hb => by simpa using hb)
              have O8 := hid (O7.out.beside b6 (by omega))
              have A8 := hid (A7.out.beside b6 (by omega))
              have B8 : Hid (Beside bx w w6) := B7.out.trans b6
              have P8 := hid P6'
              have hs6 : w3.heap.size < w6.heap.size := O8.out.lt
              obtain ⟨la, lc, rfl, _, _⟩ := hlv
              clear P6' b6 hm6 hp6 O7 A7 B7 P7 HE4 L
              have HE7 := HE9
              clear HE9
              have x3 := O8.out.c3
              have y3 := O8.out.z3
              have O7 := hid ((O8.out).set3 (.slice la xs.length lc))
              have A7 := hid ((A8.out).other (g := w3.heap.size) (i := 3) (by omega) (.slice la xs.length lc))
              have P7 := hid ((P8.out).set (g := w3.heap.size) (i := 3) hb3 (.slice la xs.length lc))
              have B7 : Hid (Beside bx w (w6.setCell ⟨w3.heap.size, 3, none⟩ (.slice la xs.length lc))) := (B8.out).setNew (p := ⟨w3.heap.size, 3, none⟩) (by simp; omega) (.slice la xs.length lc)
              clear O8 A8 B8 P8
              have M := hid (fun W hW => mark_is bx (m6) en ⟨#[93]⟩ T W hW)
              go_wp2_with fail
              go_at_call 84
              refine (M.out _ P7.out).mono ?_
              rintro e w8 h8
              cases hp8 : pMark en ⟨#[93]⟩ (T.drop (m6)) with
              | error f =>
                rw [hp8] at h8
                obtain ⟨rfl, b8⟩ := h8
                refine ⟨rfl, ?_⟩
                show ToldR bx en T w _ (pOp en (T.drop n)) _ _
                rw [HE7.out]
                unfold pOpD
                rw [and_err hp8]
                exact ⟨rfl, B7.out.trans b8⟩
              | ok z =>
                obtain ⟨u8, l8⟩ := z
                rw [hp8] at h8
                obtain ⟨⟨m8, hm8, P8⟩, rfl, b8⟩ := h8
                have HE8 : Hid (pOp en (T.drop n) = .ok ((2, s, 0, xs, true, false), l8)) := by show _ = _; rw [HE7.out]; unfold pOpD; rw [and_ok hp8]
                have HM8 := hid hm8
                have O8 := hid (O7.out.beside b8 (by omega))
                have A8 := hid (A7.out.beside b8 (by omega))
                have B8 : Hid (Beside bx w w8) := B7.out.trans b8
                have P8H := hid P8
                have B78 := hid b8
                clear hp8 hm8 P8 b8 O7 A7 B7 P7 HE7 M
                obtain ⟨o0, o1, o2, o3, o4, o5, p0, p1, p2, p3, p4, p5⟩ := O8.out
                obtain ⟨a0, a1, a2, a3, a4, a5, z0, z1, z2, z3, z4, z5⟩ := A8.out
                clear O8
                go_wp2_with fail
                rw [HE8.out]
                refine bodyPost_ret (v := .agg #[_, _, _, _, _, _]) (by simp [results, Tryz.results65, go_sem, a0, a1, a2, a3, a4, a5]) rfl ⟨⟨m8, HM8.out, P8H.out.put6 (by omega) _ _ _ _ _ _⟩, ⟨_, rfl, _, rfl, ((LV.out.past ((Beside.refl w3.heap.size w6).setCell (p := ⟨w3.heap.size, 3, none⟩) rfl _) (by omega)).past B78.out (by omega)).past (be_self6 w.heap.size w8 _ _ _ _ _ _) (by omega) |>.keep (fun _ _ _ => rfl) (fun b _ hb => by omega)⟩, be_put6 B8.out (Nat.le_refl _) _ _ _ _ _ _⟩

          | false =>
            have S := hid (fun W hW => sees_is bx m4 en 3 ⟨#[40]⟩ T W (by decide) hW)
            rw [hs] at S
            go_wp2_with fail
            go_at_call 66
            refine (S.out _ P5.out).mono ?_
            rintro e w5 ⟨rfl, b5⟩
            have P6 := hid (P5.out.keep (b5.mono P5.out.lt))
            have b5b : Beside bx (w4.setCell ⟨w3.heap.size, 1, none⟩ (.string s)) w5 := Beside.of_below b5
            have O6 := hid (O5.out.beside b5b (by omega))
            have A6 := hid (A5.out.beside b5b (by omega))
            have B6 : Hid (Beside bx w w5) := B5.out.trans b5b
            have hs5 : w3.heap.size < w5.heap.size := O6.out.lt
            clear b5 b5b O5 A5 B5 P5 S q0 q1 y1
            have x4 := O6.out.c4
            have y4 := O6.out.z4
            have HE7 : Hid (pOp en (T.drop n) = pOpD en (2, s, 0, [], false, false) (T.drop m4)) := by show _ = _; rw [HE4.out]; unfold pOpC; rw [pMid_2no hs]; rfl
            have O7 := hid ((O6.out).set4 false)
            have A7 := hid ((A6.out).other (g := w3.heap.size) (i := 4) (by omega) (.bool false))
            have P7 := hid ((P6.out).set (g := w3.heap.size) (i := 4) hb3 (.bool false))
            have B7 : Hid (Beside bx w (w5.setCell ⟨w3.heap.size, 4, none⟩ (.bool false))) := (B6.out).setNew (p := ⟨w3.heap.size, 4, none⟩) (by simp; omega) (.bool false)
            clear O6 A6 B6 P6 HE4
            have M := hid (fun W hW => mark_is bx (m4) en ⟨#[93]⟩ T W hW)
            go_wp2_with fail
            go_at_call 84
            refine (M.out _ P7.out).mono ?_
            rintro e w8 h8
            cases hp8 : pMark en ⟨#[93]⟩ (T.drop (m4)) with
            | error f =>
              rw [hp8] at h8
              obtain ⟨rfl, b8⟩ := h8
              refine ⟨rfl, ?_⟩
              show ToldR bx en T w _ (pOp en (T.drop n)) _ _
              rw [HE7.out]
              unfold pOpD
              rw [and_err hp8]
              exact ⟨rfl, B7.out.trans b8⟩
            | ok z =>
              obtain ⟨u8, l8⟩ := z
              rw [hp8] at h8
              obtain ⟨⟨m8, hm8, P8⟩, rfl, b8⟩ := h8
              have HE8 : Hid (pOp en (T.drop n) = .ok ((2, s, 0, [], false, false), l8)) := by show _ = _; rw [HE7.out]; unfold pOpD; rw [and_ok hp8]
              have HM8 := hid hm8
              have O8 := hid (O7.out.beside b8 (by omega))
              have A8 := hid (A7.out.beside b8 (by omega))
              have B8 : Hid (Beside bx w w8) := B7.out.trans b8
              have P8H := hid P8
              have B78 := hid b8
              clear hp8 hm8 P8 b8 O7 A7 B7 P7 HE7 M
              obtain ⟨o0, o1, o2, o3, o4, o5, p0, p1, p2, p3, p4, p5⟩ := O8.out
              obtain ⟨a0, a1, a2, a3, a4, a5, z0, z1, z2, z3, z4, z5⟩ := A8.out
              clear O8
              go_wp2_with fail
              rw [HE8.out]
              refine bodyPost_ret (v := .agg #[_, _, _, _, _, _]) (by simp [results, Tryz.results65, go_sem, a0, a1, a2, a3, a4, a5]) rfl ⟨⟨m8, HM8.out, P8H.out.put6 (by omega) _ _ _ _ _ _⟩, ⟨_, rfl, _, rfl, ints_none _ _⟩, be_put6 B8.out (Nat.le_refl _) _ _ _ _ _ _⟩

        · have N := hid (fun W hW => number_is bx m4 en T W hW)
          go_wp2_with fail
          go_at_call 86
          refine (N.out _ P5.out).mono ?_
          rintro e w5 h5
          cases hp5 : pNum en (T.drop m4) with
          | error f =>
            rw [hp5] at h5
            obtain ⟨rfl, b5⟩ := h5
            refine ⟨rfl, ?_⟩
            show ToldR bx en T w _ (pOp en (T.drop n)) _ _
            rw [HE4.out]
            unfold pOpC
            rw [pMid_3, and_err (and_err hp5)]
            exact ⟨rfl, B5.out.trans b5⟩
          | ok z =>
            obtain ⟨x, l5⟩ := z
            rw [hp5] at h5
            obtain ⟨⟨m5, hm5, P6'⟩, rfl, b5⟩ := h5
            have hm5' : l5 = T.drop m5 := hm5
            subst hm5'
            have HE7 : Hid (pOp en (T.drop n) = pOpD en (3, s, x, [], false, false) (T.drop m5)) := by show _ = _; rw [HE4.out]; unfold pOpC; rw [pMid_3, and_ok hp5]; rfl
            have O6 := hid (O5.out.beside b5 (by omega))
            have A6 := hid (A5.out.beside b5 (by omega))
            have B6 : Hid (Beside bx w w5) := B5.out.trans b5
            have P6 := hid P6'
            have hs5 : w3.heap.size < w5.heap.size := O6.out.lt
            clear P6' b5 hm5 hp5 O5 A5 B5 P5 HE4 N q0 q1 y1
            have x2 := O6.out.c2
            have y2 := O6.out.z2
            have O7 := hid ((O6.out).set2 x)
            have A7 := hid ((A6.out).other (g := w3.heap.size) (i := 2) (by omega) (.int .i64 x))
            have P7 := hid ((P6.out).set (g := w3.heap.size) (i := 2) hb3 (.int .i64 x))
            have B7 : Hid (Beside bx w (w5.setCell ⟨w3.heap.size, 2, none⟩ (.int .i64 x))) := (B6.out).setNew (p := ⟨w3.heap.size, 2, none⟩) (by simp; omega) (.int .i64 x)
            clear O6 A6 B6 P6
            have M := hid (fun W hW => mark_is bx (m5) en ⟨#[93]⟩ T W hW)
            go_wp2_with fail
            go_at_call 84
            refine (M.out _ P7.out).mono ?_
            rintro e w8 h8
            cases hp8 : pMark en ⟨#[93]⟩ (T.drop (m5)) with
            | error f =>
              rw [hp8] at h8
              obtain ⟨rfl, b8⟩ := h8
              refine ⟨rfl, ?_⟩
              show ToldR bx en T w _ (pOp en (T.drop n)) _ _
              rw [HE7.out]
              unfold pOpD
              rw [and_err hp8]
              exact ⟨rfl, B7.out.trans b8⟩
            | ok z =>
              obtain ⟨u8, l8⟩ := z
              rw [hp8] at h8
              obtain ⟨⟨m8, hm8, P8⟩, rfl, b8⟩ := h8
              have HE8 : Hid (pOp en (T.drop n) = .ok ((3, s, x, [], false, false), l8)) := by show _ = _; rw [HE7.out]; unfold pOpD; rw [and_ok hp8]
              have HM8 := hid hm8
              have O8 := hid (O7.out.beside b8 (by omega))
              have A8 := hid (A7.out.beside b8 (by omega))
              have B8 : Hid (Beside bx w w8) := B7.out.trans b8
              have P8H := hid P8
              have B78 := hid b8
              clear hp8 hm8 P8 b8 O7 A7 B7 P7 HE7 M
              obtain ⟨o0, o1, o2, o3, o4, o5, p0, p1, p2, p3, p4, p5⟩ := O8.out
              obtain ⟨a0, a1, a2, a3, a4, a5, z0, z1, z2, z3, z4, z5⟩ := A8.out
              clear O8
              go_wp2_with fail
              rw [HE8.out]
              refine bodyPost_ret (v := .agg #[_, _, _, _, _, _]) (by simp [results, Tryz.results65, go_sem, a0, a1, a2, a3, a4, a5]) rfl ⟨⟨m8, HM8.out, P8H.out.put6 (by omega) _ _ _ _ _ _⟩, ⟨_, rfl, _, rfl, ints_none _ _⟩, be_put6 B8.out (Nat.le_refl _) _ _ _ _ _ _⟩

        · cases hs : seesP (T.drop m4) 1 ⟨#[110, 105, 108]⟩ with
          | true =>
            have S := hid (fun W hW => sees_is bx m4 en 1 ⟨#[110, 105, 108]⟩ T W (by decide) hW)
            rw [hs] at S
            go_wp2_with fail
            go_at_call 66
            refine (S.out _ P5.out).mono ?_
            rintro e w5 ⟨rfl, b5⟩
            have P6 := hid (P5.out.keep (b5.mono P5.out.lt))
            have b5b : Beside bx (w4.setCell ⟨w3.heap.size, 1, none⟩ (.string s)) w5 := Beside.of_below b5
            have O6 := hid (O5.out.beside b5b (by omega))
            have A6 := hid (A5.out.beside b5b (by omega))
            have B6 : Hid (Beside bx w w5) := B5.out.trans b5b
            have hs5 : w3.heap.size < w5.heap.size := O6.out.lt
            clear b5 b5b O5 A5 B5 P5 S q0 q1 y1
            have hn4 := sees_lt hs
            have x4 := O6.out.c4
            have y4 := O6.out.z4
            have x5 := O6.out.c5
            have y5 := O6.out.z5
            have k1 := P6.out.c1
            have ky1 := P6.out.z1
            have nb1 : ¬ w3.heap.size = bx := by omega
            have nb2 : ¬ bx = w3.heap.size := by omega
            have HE7 : Hid (pOp en (T.drop n) = pOpD en (4, s, 0, [], true, true) (T.drop (m4 + 1))) := by show _ = _; rw [HE4.out]; unfold pOpC; rw [pMid_4nil hs, List.tail_drop]; rfl
            have O7 := hid ((((O6.out).set5 true).set4 true).other (g := bx) (i := 1) (by omega) (.int .i64 (RowKit.wrap64 ((m4 : Int) + 1))))
            have A7 := hid ((((A6.out).other (g := w3.heap.size) (i := 5) (by omega) (.bool true)).other (g := w3.heap.size) (i := 4) (by omega) (.bool true)).other (g := bx) (i := 1) (by omega) (.int .i64 (RowKit.wrap64 ((m4 : Int) + 1))))
            have P7 := hid ((((P6.out).set (g := w3.heap.size) (i := 5) hb3 (.bool true)).set (g := w3.heap.size) (i := 4) hb3 (.bool true)).took hn4)
            have B7 : Hid (Beside bx w (((w5.setCell ⟨w3.heap.size, 5, none⟩ (.bool true)).setCell ⟨w3.heap.size, 4, none⟩ (.bool true)).setCell ⟨bx, 1, none⟩ (.int .i64 (RowKit.wrap64 ((m4 : Int) + 1))))) := (((B6.out).setNew (p := ⟨w3.heap.size, 5, none⟩) (by simp; omega) (.bool true)).setNew (p := ⟨w3.heap.size, 4, none⟩) (by simp; omega) (.bool true)).setCell (p := ⟨bx, 1, none⟩) rfl (.int .i64 (RowKit.wrap64 ((m4 : Int) + 1)))
            clear O6 A6 B6 P6 HE4
            have M := hid (fun W hW => mark_is bx (m4 + 1) en ⟨#[93]⟩ T W hW)
            go_wp2_with fail
            go_at_call 84
            refine (M.out _ P7.out).mono ?_
            rintro e w8 h8
            cases hp8 : pMark en ⟨#[93]⟩ (T.drop (m4 + 1)) with
            | error f =>
              rw [hp8] at h8
              obtain ⟨rfl, b8⟩ := h8
              refine ⟨rfl, ?_⟩
              show ToldR bx en T w _ (pOp en (T.drop n)) _ _
              rw [HE7.out]
              unfold pOpD
              rw [and_err hp8]
              exact ⟨rfl, B7.out.trans b8⟩
            | ok z =>
              obtain ⟨u8, l8⟩ := z
              rw [hp8] at h8
              obtain ⟨⟨m8, hm8, P8⟩, rfl, b8⟩ := h8
              have HE8 : Hid (pOp en (T.drop n) = .ok ((4, s, 0, [], true, true), l8)) := by show _ = _; rw [HE7.out]; unfold pOpD; rw [and_ok hp8]
              have HM8 := hid hm8
              have O8 := hid (O7.out.beside b8 (by omega))
              have A8 := hid (A7.out.beside b8 (by omega))
              have B8 : Hid (Beside bx w w8) := B7.out.trans b8
              have P8H := hid P8
              have B78 := hid b8
              clear hp8 hm8 P8 b8 O7 A7 B7 P7 HE7 M
              obtain ⟨o0, o1, o2, o3, o4, o5, p0, p1, p2, p3, p4, p5⟩ := O8.out
              obtain ⟨a0, a1, a2, a3, a4, a5, z0, z1, z2, z3, z4, z5⟩ := A8.out
              clear O8
              go_wp2_with fail
              rw [HE8.out]
              refine bodyPost_ret (v := .agg #[_, _, _, _, _, _]) (by simp [results, Tryz.results65, go_sem, a0, a1, a2, a3, a4, a5]) rfl ⟨⟨m8, HM8.out, P8H.out.put6 (by omega) _ _ _ _ _ _⟩, ⟨_, rfl, _, rfl, ints_none _ _⟩, be_put6 B8.out (Nat.le_refl _) _ _ _ _ _ _⟩

          | false =>
            have S := hid (fun W hW => sees_is bx m4 en 1 ⟨#[110, 105, 108]⟩ T W (by decide) hW)
            rw [hs] at S
            go_wp2_with fail
            go_at_call 66
            refine (S.out _ P5.out).mono ?_
            rintro e w5 ⟨rfl, b5⟩
            have P6 := hid (P5.out.keep (b5.mono P5.out.lt))
            have b5b : Beside bx (w4.setCell ⟨w3.heap.size, 1, none⟩ (.string s)) w5 := Beside.of_below b5
            have O6 := hid (O5.out.beside b5b (by omega))
            have A6 := hid (A5.out.beside b5b (by omega))
            have B6 : Hid (Beside bx w w5) := B5.out.trans b5b
            have hs5 : w3.heap.size < w5.heap.size := O6.out.lt
            clear b5 b5b O5 A5 B5 P5 S q0 q1 y1
            have x5 := O6.out.c5
            have y5 := O6.out.z5
            have O7 := hid ((O6.out).set5 false)
            have A7 := hid ((A6.out).other (g := w3.heap.size) (i := 5) (by omega) (.bool false))
            have P7 := hid ((P6.out).set (g := w3.heap.size) (i := 5) hb3 (.bool false))
            have B7 : Hid (Beside bx w (w5.setCell ⟨w3.heap.size, 5, none⟩ (.bool false))) := (B6.out).setNew (p := ⟨w3.heap.size, 5, none⟩) (by simp; omega) (.bool false)
            clear O6 A6 B6 P6

            by_cases h2 : (lookT en T m4).1 = 2
            · have HEN : Hid (pOp en (T.drop n) = pOpD en (4, s, (lookT en T m4).2.2.2, [], true, false) (T.drop (m4 + 1))) := by show _ = _; rw [HE4.out]; unfold pOpC; rw [pMid_4num hs h2]; rfl
              have N := hid (fun W hW => number_is bx m4 en T W hW)
              rw [pNum_ok h2] at N
              have L := hid (fun W hW => look_is bx m4 en T W hW)
              generalize ht : lookT en T m4 = t at L h2 N HEN
              have tf := tokf0 t.1 t.2.1 t.2.2.1 t.2.2.2
              clear ht
              go_wp2_with fail
              go_at_call 39
              refine (L.out _ P7.out).mono ?_
              rintro e w6 ⟨rfl, b6⟩
              have P8 := hid (P7.out.keep (b6.mono P7.out.lt))
              have O8 := hid (O7.out.beside (Beside.of_below (bx := bx) b6) (by omega))
              have A8 := hid (A7.out.beside (Beside.of_below (bx := bx) b6) (by omega))
              have B8 : Hid (Beside bx w w6) := B7.out.trans (Beside.of_below b6)
              have hs6 : w3.heap.size < w6.heap.size := O8.out.lt
              clear b6 O7 A7 B7 P7
              have x4 := O8.out.c4
              have y4 := O8.out.z4
              have P9 := hid (P8.out.set (g := w3.heap.size) (i := 4) hb3 (.bool true))
              go_wp2_with fail
              go_at_call 86
              refine (N.out _ P9.out).mono ?_
              rintro e w7 ⟨⟨m7, hm7, P10⟩, rfl, b7⟩
              have HM7 := hid hm7
              have HE7 : Hid (pOp en (T.drop n) = pOpD en (4, s, t.2.2.2, [], true, false) (T.drop m7)) := by show _ = _; rw [HEN.out]; exact congrArg _ HM7.out
              have b47 : Beside bx (w6.setCell ⟨w3.heap.size, 4, none⟩ (.bool true)) w7 := b7
              have O9 := hid ((O8.out.set4 true).beside b47 (by omega))
              have A9 := hid ((A8.out.other (g := w3.heap.size) (i := 4) (by omega) (.bool true)).beside b47 (by omega))
              have B9 : Hid (Beside bx w w7) := (B8.out.setNew (p := ⟨w3.heap.size, 4, none⟩) (by simp; omega) (.bool true)).trans b47
              have P9' := hid P10
              clear b7 b47 hm7 P10 P9 O8 A8 B8 P8 N HE4 HEN
              have P9 := P9'
              clear P9'
              have hs7 : w3.heap.size < w7.heap.size := O9.out.lt
              have x2 := O9.out.c2
              have y2 := O9.out.z2
              have O7 := hid ((O9.out).set2 t.2.2.2)
              have A7 := hid ((A9.out).other (g := w3.heap.size) (i := 2) (by omega) (.int .i64 t.2.2.2))
              have P7 := hid ((P9.out).set (g := w3.heap.size) (i := 2) hb3 (.int .i64 t.2.2.2))
              have B7 : Hid (Beside bx w (w7.setCell ⟨w3.heap.size, 2, none⟩ (.int .i64 t.2.2.2))) := (B9.out).setNew (p := ⟨w3.heap.size, 2, none⟩) (by simp; omega) (.int .i64 t.2.2.2)
              clear O9 A9 B9 P9
              have M := hid (fun W hW => mark_is bx (m7) en ⟨#[93]⟩ T W hW)
              go_wp2_with fail
              go_at_call 84
              refine (M.out _ P7.out).mono ?_
              rintro e w8 h8
              cases hp8 : pMark en ⟨#[93]⟩ (T.drop (m7)) with
              | error f =>
                rw [hp8] at h8
                obtain ⟨rfl, b8⟩ := h8
                refine ⟨rfl, ?_⟩
                show ToldR bx en T w _ (pOp en (T.drop n)) _ _
                rw [HE7.out]
                unfold pOpD
                rw [and_err hp8]
                exact ⟨rfl, B7.out.trans b8⟩
              | ok z =>
                obtain ⟨u8, l8⟩ := z
                rw [hp8] at h8
                obtain ⟨⟨m8, hm8, P8⟩, rfl, b8⟩ := h8
                have HE8 : Hid (pOp en (T.drop n) = .ok ((4, s, t.2.2.2, [], true, false), l8)) := by show _ = _; rw [HE7.out]; unfold pOpD; rw [and_ok hp8]
                have HM8 := hid hm8
                have O8 := hid (O7.out.beside b8 (by omega))
                have A8 := hid (A7.out.beside b8 (by omega))
                have B8 : Hid (Beside bx w w8) := B7.out.trans b8
                have P8H := hid P8
                have B78 := hid b8
                clear hp8 hm8 P8 b8 O7 A7 B7 P7 HE7 M
                obtain ⟨o0, o1, o2, o3, o4, o5, p0, p1, p2, p3, p4, p5⟩ := O8.out
                obtain ⟨a0, a1, a2, a3, a4, a5, z0, z1, z2, z3, z4, z5⟩ := A8.out
                clear O8
                go_wp2_with fail
                rw [HE8.out]
                refine bodyPost_ret (v := .agg #[_, _, _, _, _, _]) (by simp [results, Tryz.results65, go_sem, a0, a1, a2, a3, a4, a5]) rfl ⟨⟨m8, HM8.out, P8H.out.put6 (by omega) _ _ _ _ _ _⟩, ⟨_, rfl, _, rfl, ints_none _ _⟩, be_put6 B8.out (Nat.le_refl _) _ _ _ _ _ _⟩

            · have HE7 : Hid (pOp en (T.drop n) = pOpD en (4, s, 0, [], false, false) (T.drop m4)) := by show _ = _; rw [HE4.out]; unfold pOpC; rw [pMid_4no hs h2]; rfl
              have L := hid (fun W hW => look_is bx m4 en T W hW)
              generalize ht : lookT en T m4 = t at L h2
              have tf := tokf0 t.1 t.2.1 t.2.2.1 t.2.2.2
              clear ht
              go_wp2_with fail
              go_at_call 39
              refine (L.out _ P7.out).mono ?_
              rintro e w6 ⟨rfl, b6⟩
              have P9 := hid (P7.out.keep (b6.mono P7.out.lt))
              have O9 := hid (O7.out.beside (Beside.of_below (bx := bx) b6) (by omega))
              have A9 := hid (A7.out.beside (Beside.of_below (bx := bx) b6) (by omega))
              have B9 : Hid (Beside bx w w6) := B7.out.trans (Beside.of_below b6)
              have hs6 : w3.heap.size < w6.heap.size := O9.out.lt
              clear b6 O7 A7 B7 P7
              have O7 := O9
              have A7 := A9
              have B7 := B9
              have P7 := P9
              clear O9 A9 B9 P9 HE4
              have M := hid (fun W hW => mark_is bx (m4) en ⟨#[93]⟩ T W hW)
              go_wp2_with fail
              go_at_call 84
              refine (M.out _ P7.out).mono ?_
              rintro e w8 h8
              cases hp8 : pMark en ⟨#[93]⟩ (T.drop (m4)) with
              | error f =>
                rw [hp8] at h8
                obtain ⟨rfl, b8⟩ := h8
                refine ⟨rfl, ?_⟩
                show ToldR bx en T w _ (pOp en (T.drop n)) _ _
                rw [HE7.out]
                unfold pOpD
                rw [and_err hp8]
                exact ⟨rfl, B7.out.trans b8⟩
              | ok z =>
                obtain ⟨u8, l8⟩ := z
                rw [hp8] at h8
                obtain ⟨⟨m8, hm8, P8⟩, rfl, b8⟩ := h8
                have HE8 : Hid (pOp en (T.drop n) = .ok ((4, s, 0, [], false, false), l8)) := by show _ = _; rw [HE7.out]; unfold pOpD; rw [and_ok hp8]
                have HM8 := hid hm8
                have O8 := hid (O7.out.beside b8 (by omega))
                have A8 := hid (A7.out.beside b8 (by omega))
                have B8 : Hid (Beside bx w w8) := B7.out.trans b8
                have P8H := hid P8
                have B78 := hid b8
                clear hp8 hm8 P8 b8 O7 A7 B7 P7 HE7 M
                obtain ⟨o0, o1, o2, o3, o4, o5, p0, p1, p2, p3, p4, p5⟩ := O8.out
                obtain ⟨a0, a1, a2, a3, a4, a5, z0, z1, z2, z3, z4, z5⟩ := A8.out
                clear O8
                go_wp2_with fail
                rw [HE8.out]
                refine bodyPost_ret (v := .agg #[_, _, _, _, _, _]) (by simp [results, Tryz.results65, go_sem, a0, a1, a2, a3, a4, a5]) rfl ⟨⟨m8, HM8.out, P8H.out.put6 (by omega) _ _ _ _ _ _⟩, ⟨_, rfl, _, rfl, ints_none _ _⟩, be_put6 B8.out (Nat.le_refl _) _ _ _ _ _ _⟩

end Go.Proofs.YtegeiojcdjnmjaaGreatDoor
