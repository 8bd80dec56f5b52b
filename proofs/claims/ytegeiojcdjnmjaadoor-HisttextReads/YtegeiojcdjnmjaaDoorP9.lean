/-
  The code's parser of a history's text: an operation.
  A region that draws its order, by what is known of the value of each of its operations: whatever the order, each operation comes once, behind those that it waits for.
-/
import Derived.Test.YtegeiojcdjnmjaaDoorP8
import Derived.WalkKit
import Derived.Orders
import Derived.RowKit
import Derived.Deep.Draws
import Derived.Test.YtegeiojcdjnmjaaDoorProg
namespace Go.Proofs.YtegeiojcdjnmjaaDoor
set_option linter.unusedVariables false
set_option linter.unusedSimpArgs false
open Go.RowKit

set_option maxHeartbeats 8000000 in
set_option maxRecDepth 100000 in
theorem op_is (bx n : Nat) (en : Int) (T : List MTok) (w : World) (h : PB bx en T n w) :
    Calls Tryd.prog 65 #[.pointer (some ⟨bx, 0, none⟩)] w (ToldR bx en T w (fun o v w' => OpV (fun b => w.heap.size ≤ b) w' v o) (pOp en (T.drop n))) := by
  have hlt := h.lt
  have A0 := hid (oc_new w 0 ⟨#[]⟩ 0 (.slice none 0 0) false false)
  have P0 := hid (fun o => h.keep ((below_box w o).mono h.lt))
  clear h
  go_enter Tryd.func65, Tryd.ntmps65
  go_wp2_with fail
  go_at_call 79
  refine (mark_is bx n en ⟨#[91]⟩ T _ (P0.out _)).mono ?_
  rintro e w1 h1
  cases hp1 : pMark en ⟨#[91]⟩ (T.drop n) with
  | error f =>
    rw [hp1] at h1
    obtain ⟨rfl, b1⟩ := h1
    refine ⟨rfl, ?_⟩
    show ToldR bx en T w _ (pOp en (T.drop n)) _ _
    rw [pOp_A, and_err hp1]
    exact ⟨rfl, (Beside.of_below (below_box w _)).trans b1⟩
  | ok z =>
    obtain ⟨u, l1⟩ := z
    rw [hp1] at h1
    obtain ⟨⟨m1, hm1, P1⟩, rfl, b1⟩ := h1
    have hm1' : l1 = T.drop m1 := hm1
    subst hm1'
    have HE1 : Hid (pOp en (T.drop n) = pOpA en (T.drop m1)) := by show _ = _; rw [pOp_A, and_ok hp1]
    have A1 := hid (A0.out.beside b1 (by omega))
    have B1 : Hid (Beside bx w w1) := (Beside.of_below (below_box w _)).trans b1
    have P1H := hid P1
    clear P1 b1 hm1 hp1 A0 P0
    have hs1 : w.heap.size < w1.heap.size := A1.out.lt
    go_wp2_with fail
    go_at_call 51
    refine (opWords_is _).mono ?_
    rintro e w2 ⟨rfl, b2⟩
    have A2 := hid (A1.out.beside (Beside.of_below (bx := bx) b2) (by omega))
    have B2 : Hid (Beside bx w w2) := B1.out.trans (Beside.of_below b2)
    have P2 := hid (P1H.out.keep (b2.mono P1H.out.lt))
    clear b2 A1 B1 P1H
    go_wp2_with fail
    go_at_call 63
    refine (kind_is bx m1 en T _ _ _ _ _ _ P2.out).mono ?_
    rintro e w3 h3'
    have h3 : Told bx en T w2 (fun x => .int .i64 x) (pKind en (T.drop m1) 0 pOpWords) e w3 := h3'
    clear h3'
    cases hp3 : pKind en (T.drop m1) 0 pOpWords with
    | error f =>
      rw [hp3] at h3
      obtain ⟨rfl, b3⟩ := h3
      refine ⟨rfl, ?_⟩
      show ToldR bx en T w _ (pOp en (T.drop n)) _ _
      rw [HE1.out]
      unfold pOpA
      rw [and_err hp3]
      exact ⟨rfl, B2.out.trans b3⟩
    | ok z =>
      obtain ⟨k, l2⟩ := z
      rw [hp3] at h3
      obtain ⟨⟨m3, hm3, P3⟩, rfl, b3⟩ := h3
      have hm3' : l2 = T.drop m3 := hm3
      subst hm3'
      have hkr := pKind_five hp3
      have HE3 : Hid (pOp en (T.drop n) = pOpB en k (T.drop m3)) := by show _ = _; rw [HE1.out]; unfold pOpA; rw [and_ok hp3]
      have A3 := hid (A2.out.beside b3 (by omega))
      have B3 : Hid (Beside bx w w3) := B2.out.trans b3
      have P3H := hid P3
      clear P3 b3 hm3 hp3 A2 B2 P2 HE1
      have hs3 : w.heap.size < w3.heap.size := A3.out.lt
      have hb3 : bx < w3.heap.size := P3H.out.lt
      have N0 := hid (oc_new w3 k ⟨#[]⟩ 0 (.slice none 0 0) false false)
      have HKR := hid hkr
      clear hkr
      go_wp2_with fail
      go_at_call 80
      refine (key_is bx m3 en T _ (P3H.out.keep ((below_box w3 _).mono hb3))).mono ?_
      rintro e w4 h4
      cases hp4 : pKey en (T.drop m3) with
      | error f =>
        rw [hp4] at h4
        obtain ⟨rfl, b4⟩ := h4
        refine ⟨rfl, ?_⟩
        show ToldR bx en T w _ (pOp en (T.drop n)) _ _
        rw [HE3.out]
        unfold pOpB
        rw [and_err hp4]
        exact ⟨rfl, B3.out.trans ((Beside.of_below (below_box w3 _)).trans b4)⟩
      | ok z =>
        obtain ⟨s, l3⟩ := z
        rw [hp4] at h4
        obtain ⟨⟨m4, hm4, P4⟩, rfl, b4⟩ := h4
        have hm4' : l3 = T.drop m4 := hm4
        subst hm4'
        have HE4 : Hid (pOp en (T.drop n) = pOpC en k s (T.drop m4)) := by show _ = _; rw [HE3.out]; unfold pOpB; rw [and_ok hp4]
        have O4 := hid (N0.out.beside b4 (by omega))
        have A4 := hid ((A3.out.beside (Beside.of_below (bx := bx) (below_box w3 _)) (by omega)).beside b4 (by omega))
        have B4 : Hid (Beside bx w w4) := B3.out.trans ((Beside.of_below (below_box w3 _)).trans b4)
        have P4H := hid P4
        clear P4 b4 hm4 hp4 A3 B3 P3H HE3 N0
        have hs4 : w3.heap.size < w4.heap.size := O4.out.lt
        have q0 := O4.out.c0
        have q1 := O4.out.c1
        have y1 := O4.out.z1
        have O5 := hid (O4.out.set1 s)
        have A5 := hid (A4.out.other (g := w3.heap.size) (i := 1) (by omega) (.string s))
        have B5 : Hid (Beside bx w (w4.setCell ⟨w3.heap.size, 1, none⟩ (.string s))) := B4.out.setNew (p := ⟨w3.heap.size, 1, none⟩) (by simp; omega) _
        have P5 := hid (P4H.out.set (g := w3.heap.size) (i := 1) hb3 (.string s))
        have hsA : w.heap.size < w3.heap.size := hs3
        clear O4 A4 B4 P4H
        have hkr := HKR.out
        clear HKR
        rcases hkr with rfl | rfl | rfl | rfl | rfl
        · have HE7 : Hid (pOp en (T.drop n) = pOpD en (0, s, 0, [], false, false) (T.drop m4)) := by show _ = _; rw [HE4.out]; unfold pOpC; rw [pMid_0]; rfl
          have O7 := O5
          have A7 := A5
          have B7 := B5
          have P7 := P5
          clear O5 A5 B5 P5 HE4
          have M := hid (fun W hW => mark_is bx (m4) en ⟨#[93]⟩ T W hW)
          go_wp2_with fail
          go_at_call 79
          refine (M.out _ P7.out).mono ?_
          rintro e w8 h8
          cases hp8 : pMark en ⟨#[93]⟩ (T.drop (m4)) with
          | error f =>
            rw [hp8] at h8
            obtain ⟨rfl, b8⟩ := h8
            refine ⟨rfl, ?_⟩
            show ToldR bx en T w _ (pOp en (T.drop n)) _ _
            rw [HE7.out]
            unfold pOpD
            rw [and_err hp8]
            exact ⟨rfl, B7.out.trans b8⟩
          | ok z =>
            obtain ⟨u8, l8⟩ := z
            rw [hp8] at h8
            obtain ⟨⟨m8, hm8, P8⟩, rfl, b8⟩ := h8
            have HE8 : Hid (pOp en (T.drop n) = .ok ((0, s, 0, [], false, false), l8)) := by show _ = _; rw [HE7.out]; unfold pOpD; rw [and_ok hp8]
            have HM8 := hid hm8
            have O8 := hid (O7.out.beside b8 (by omega))
            have A8 := hid (A7.out.beside b8 (by omega))
            have B8 : Hid (Beside bx w w8) := B7.out.trans b8
            have P8H := hid P8
            have B78 := hid b8
            clear hp8 hm8 P8 b8 O7 A7 B7 P7 HE7 M
            obtain ⟨o0, o1, o2, o3, o4, o5, p0, p1, p2, p3, p4, p5⟩ := O8.out
            obtain ⟨a0, a1, a2, a3, a4, a5, z0, z1, z2, z3, z4, z5⟩ := A8.out
            clear O8
            go_wp2_with fail
            rw [HE8.out]
            refine bodyPost_ret (v := .agg #[_, _, _, _, _, _]) (by simp [results, Tryd.results65, go_sem, a0, a1, a2, a3, a4, a5]) rfl ⟨⟨m8, HM8.out, P8H.out.put6 (by omega) _ _ _ _ _ _⟩, ⟨_, rfl, _, rfl, ints_none _ _⟩, be_put6 B8.out (Nat.le_refl _) _ _ _ _ _ _⟩

        · have N := hid (fun W hW => number_is bx m4 en T W hW)
          go_wp2_with fail
          go_at_call 81
          refine (N.out _ P5.out).mono ?_
          rintro e w5 h5
          cases hp5 : pNum en (T.drop m4) with
          | error f =>
            rw [hp5] at h5
            obtain ⟨rfl, b5⟩ := h5
            refine ⟨rfl, ?_⟩
            show ToldR bx en T w _ (pOp en (T.drop n)) _ _
            rw [HE4.out]
            unfold pOpC
            rw [pMid_1, and_err (and_err hp5)]
            exact ⟨rfl, B5.out.trans b5⟩
          | ok z =>
            obtain ⟨x, l5⟩ := z
            rw [hp5] at h5
            obtain ⟨⟨m5, hm5, P6'⟩, rfl, b5⟩ := h5
            have hm5' : l5 = T.drop m5 := hm5
            subst hm5'
            have HE7 : Hid (pOp en (T.drop n) = pOpD en (1, s, x, [], false, false) (T.drop m5)) := by show _ = _; rw [HE4.out]; unfold pOpC; rw [pMid_1, and_ok hp5]; rfl
            have O6 := hid (O5.out.beside b5 (by omega))
            have A6 := hid (A5.out.beside b5 (by omega))
            have B6 : Hid (Beside bx w w5) := B5.out.trans b5
            have P6 := hid P6'
            have hs5 : w3.heap.size < w5.heap.size := O6.out.lt
            clear P6' b5 hm5 hp5 O5 A5 B5 P5 HE4 N q0 q1 y1
            have x2 := O6.out.c2
            have y2 := O6.out.z2
            have O7 := hid ((O6.out).set2 x)
            have A7 := hid ((A6.out).other (g := w3.heap.size) (i := 2) (by omega) (.int .i64 x))
            have P7 := hid ((P6.out).set (g := w3.heap.size) (i := 2) hb3 (.int .i64 x))
            have B7 : Hid (Beside bx w (w5.setCell ⟨w3.heap.size, 2, none⟩ (.int .i64 x))) := (B6.out).setNew (p := ⟨w3.heap.size, 2, none⟩) (by simp; omega) (.int .i64 x)
            clear O6 A6 B6 P6
            have M := hid (fun W hW => mark_is bx (m5) en ⟨#[93]⟩ T W hW)
            go_wp2_with fail
            go_at_call 79
            refine (M.out _ P7.out).mono ?_
            rintro e w8 h8
            cases hp8 : pMark en ⟨#[93]⟩ (T.drop (m5)) with
            | error f =>
              rw [hp8] at h8
              obtain ⟨rfl, b8⟩ := h8
              refine ⟨rfl, ?_⟩
              show ToldR bx en T w _ (pOp en (T.drop n)) _ _
              rw [HE7.out]
              unfold pOpD
              rw [and_err hp8]
              exact ⟨rfl, B7.out.trans b8⟩
            | ok z =>
              obtain ⟨u8, l8⟩ := z
              rw [hp8] at h8
              obtain ⟨⟨m8, hm8, P8⟩, rfl, b8⟩ := h8
              have HE8 : Hid (pOp en (T.drop n) = .ok ((1, s, x, [], false, false), l8)) := by show _ = _; rw [HE7.out]; unfold pOpD; rw [and_ok hp8]
              have HM8 := hid hm8
              have O8 := hid (O7.out.beside b8 (by omega))
              have A8 := hid (A7.out.beside b8 (by omega))
              have B8 : Hid (Beside bx w w8) := B7.out.trans b8
              have P8H := hid P8
              have B78 := hid b8
              clear hp8 hm8 P8 b8 O7 A7 B7 P7 HE7 M
              obtain ⟨o0, o1, o2, o3, o4, o5, p0, p1, p2, p3, p4, p5⟩ := O8.out
              obtain ⟨a0, a1, a2, a3, a4, a5, z0, z1, z2, z3, z4, z5⟩ := A8.out
              clear O8
              go_wp2_with fail
              rw [HE8.out]
              refine bodyPost_ret (v := .agg #[_, _, _, _, _, _]) (by simp [results, Tryd.results65, go_sem, a0, a1, a2, a3, a4, a5]) rfl ⟨⟨m8, HM8.out, P8H.out.put6 (by omega) _ _ _ _ _ _⟩, ⟨_, rfl, _, rfl, ints_none _ _⟩, be_put6 B8.out (Nat.le_refl _) _ _ _ _ _ _⟩

        · cases hs : seesP (T.drop m4) 3 ⟨#[40]⟩ with
          | true =>
            have S := hid (fun W hW => sees_is bx m4 en 3 ⟨#[40]⟩ T W (by decide) hW)
            rw [hs] at S
            go_wp2_with fail
            go_at_call 66
            refine (S.out _ P5.out).mono ?_
            rintro e w5 ⟨rfl, b5⟩
            have P6 := hid (P5.out.keep (b5.mono P5.out.lt))
            have b5b : Beside bx (w4.setCell ⟨w3.heap.size, 1, none⟩ (.string s)) w5 := Beside.of_below b5
            have O6 := hid (O5.out.beside b5b (by omega))
            have A6 := hid (A5.out.beside b5b (by omega))
            have B6 : Hid (Beside bx w w5) := B5.out.trans b5b
            have hs5 : w3.heap.size < w5.heap.size := O6.out.lt
            clear b5 b5b O5 A5 B5 P5 S q0 q1 y1
            have x4 := O6.out.c4
            have y4 := O6.out.z4
            have O7 := hid ((O6.out).set4 true)
            have A7 := hid ((A6.out).other (g := w3.heap.size) (i := 4) (by omega) (.bool true))
            have P7 := hid ((P6.out).set (g := w3.heap.size) (i := 4) hb3 (.bool true))
            have B7 : Hid (Beside bx w (w5.setCell ⟨w3.heap.size, 4, none⟩ (.bool true))) := (B6.out).setNew (p := ⟨w3.heap.size, 4, none⟩) (by simp; omega) (.bool true)
            clear O6 A6 B6 P6
            have L := hid (fun W hW => list_is bx m4 en T W hW)
            go_wp2_with fail
            go_at_call 82
            refine (L.out _ P7.out).mono ?_
            rintro e w6 h6
            cases hp6 : pList en (T.drop m4) with
            | error f =>
              rw [hp6] at h6
              obtain ⟨rfl, b6⟩ := h6
              refine ⟨rfl, ?_⟩
              show ToldR bx en T w _ (pOp en (T.drop n)) _ _
              rw [HE4.out]
              unfold pOpC
              rw [pMid_2yes hs, and_err (and_err hp6)]
              exact ⟨rfl, B7.out.trans b6⟩
            | ok z =>
              obtain ⟨xs, l6⟩ := z
              rw [hp6] at h6
              obtain ⟨⟨m6, hm6, P6'⟩, ⟨lv, rfl, hlv⟩, b6⟩ := h6
              have hm6' : l6 = T.drop m6 := hm6
              subst hm6'
              have HE9 : Hid (pOp en (T.drop n) = pOpD en (2, s, 0, xs, true, false) (T.drop m6)) := by show _ = _; rw [HE4.out]; unfold pOpC; rw [pMid_2yes hs, and_ok hp6]; rfl
              have LV : Hid (IntsIn (fun b => w5.heap.size ≤ b) w6 lv xs) := hlv.keep (fun _ _ _ => rfl) (fun b _ hb => by simpa using hb)
              have O8 := hid (O7.out.beside b6 (by omega))
              have A8 := hid (A7.out.beside b6 (by omega))
              have B8 : Hid (Beside bx w w6) := B7.out.trans b6
              have P8 := hid P6'
              have hs6 : w3.heap.size < w6.heap.size := O8.out.lt
              obtain ⟨la, lc, rfl, _, _⟩ := hlv
              clear P6' b6 hm6 hp6 O7 A7 B7 P7 HE4 L
              have HE7 := HE9
              clear HE9
              have x3 := O8.out.c3
              have y3 := O8.out.z3
              have O7 := hid ((O8.out).set3 (.slice la xs.length lc))
              have A7 := hid ((A8.out).other (g := w3.heap.size) (i := 3) (by omega) (.slice la xs.length lc))
              have P7 := hid ((P8.out).set (g := w3.heap.size) (i := 3) hb3 (.slice la xs.length lc))
              have B7 : Hid (Beside bx w (w6.setCell ⟨w3.heap.size, 3, none⟩ (.slice la xs.length lc))) := (B8.out).setNew (p := ⟨w3.heap.size, 3, none⟩) (by simp; omega) (.slice la xs.length lc)
              clear O8 A8 B8 P8
              have M := hid (fun W hW => mark_is bx (m6) en ⟨#[93]⟩ T W hW)
              go_wp2_with fail
              go_at_call 79
              refine (M.out _ P7.out).mono ?_
              rintro e w8 h8
              cases hp8 : pMark en ⟨#[93]⟩ (T.drop (m6)) with
              | error f =>
                rw [hp8] at h8
                obtain ⟨rfl, b8⟩ := h8
                refine ⟨rfl, ?_⟩
                show ToldR bx en T w _ (pOp en (T.drop n)) _ _
                rw [HE7.out]
                unfold pOpD
                rw [and_err hp8]
                exact ⟨rfl, B7.out.trans b8⟩
              | ok z =>
                obtain ⟨u8, l8⟩ := z
                rw [hp8] at h8
                obtain ⟨⟨m8, hm8, P8⟩, rfl, b8⟩ := h8
                have HE8 : Hid (pOp en (T.drop n) = .ok ((2, s, 0, xs, true, false), l8)) := by show _ = _; rw [HE7.out]; unfold pOpD; rw [and_ok hp8]
                have HM8 := hid hm8
                have O8 := hid (O7.out.beside b8 (by omega))
                have A8 := hid (A7.out.beside b8 (by omega))
                have B8 : Hid (Beside bx w w8) := B7.out.trans b8
                have P8H := hid P8
                have B78 := hid b8
                clear hp8 hm8 P8 b8 O7 A7 B7 P7 HE7 M
                obtain ⟨o0, o1, o2, o3, o4, o5, p0, p1, p2, p3, p4, p5⟩ := O8.out
                obtain ⟨a0, a1, a2, a3, a4, a5, z0, z1, z2, z3, z4, z5⟩ := A8.out
                clear O8
                go_wp2_with fail
                rw [HE8.out]
                refine bodyPost_ret (v := .agg #[_, _, _, _, _, _]) (by simp [results, Tryd.results65, go_sem, a0, a1, a2, a3, a4, a5]) rfl ⟨⟨m8, HM8.out, P8H.out.put6 (by omega) _ _ _ _ _ _⟩, ⟨_, rfl, _, rfl, ((LV.out.past ((Beside.refl w3.heap.size w6).setCell (p := ⟨w3.heap.size, 3, none⟩) rfl _) (by omega)).past B78.out (by omega)).past (be_self6 w.heap.size w8 _ _ _ _ _ _) (by omega) |>.keep (fun _ _ _ => rfl) (fun b _ hb => by omega)⟩, be_put6 B8.out (Nat.le_refl _) _ _ _ _ _ _⟩

          | false =>
            have S := hid (fun W hW => sees_is bx m4 en 3 ⟨#[40]⟩ T W (by decide) hW)
            rw [hs] at S
            go_wp2_with fail
            go_at_call 66
            refine (S.out _ P5.out).mono ?_
            rintro e w5 ⟨rfl, b5⟩
            have P6 := hid (P5.out.keep (b5.mono P5.out.lt))
            have b5b : Beside bx (w4.setCell ⟨w3.heap.size, 1, none⟩ (.string s)) w5 := Beside.of_below b5
            have O6 := hid (O5.out.beside b5b (by omega))
            have A6 := hid (A5.out.beside b5b (by omega))
            have B6 : Hid (Beside bx w w5) := B5.out.trans b5b
            have hs5 : w3.heap.size < w5.heap.size := O6.out.lt
            clear b5 b5b O5 A5 B5 P5 S q0 q1 y1
            have x4 := O6.out.c4
            have y4 := O6.out.z4
            have HE7 : Hid (pOp en (T.drop n) = pOpD en (2, s, 0, [], false, false) (T.drop m4)) := by show _ = _; rw [HE4.out]; unfold pOpC; rw [pMid_2no hs]; rfl
            have O7 := hid ((O6.out).set4 false)
            have A7 := hid ((A6.out).other (g := w3.heap.size) (i := 4) (by omega) (.bool false))
            have P7 := hid ((P6.out).set (g := w3.heap.size) (i := 4) hb3 (.bool false))
            have B7 : Hid (Beside bx w (w5.setCell ⟨w3.heap.size, 4, none⟩ (.bool false))) := (B6.out).setNew (p := ⟨w3.heap.size, 4, none⟩) (by simp; omega) (.bool false)
            clear O6 A6 B6 P6 HE4
            have M := hid (fun W hW => mark_is bx (m4) en ⟨#[93]⟩ T W hW)
            go_wp2_with fail
            go_at_call 79
            refine (M.out _ P7.out).mono ?_
            rintro e w8 h8
            cases hp8 : pMark en ⟨#[93]⟩ (T.drop (m4)) with
            | error f =>
              rw [hp8] at h8
              obtain ⟨rfl, b8⟩ := h8
              refine ⟨rfl, ?_⟩
              show ToldR bx en T w _ (pOp en (T.drop n)) _ _
              rw [HE7.out]
              unfold pOpD
              rw [and_err hp8]
              exact ⟨rfl, B7.out.trans b8⟩
            | ok z =>
              obtain ⟨u8, l8⟩ := z
              rw [hp8] at h8
              obtain ⟨⟨m8, hm8, P8⟩, rfl, b8⟩ := h8
              have HE8 : Hid (pOp en (T.drop n) = .ok ((2, s, 0, [], false, false), l8)) := by show _ = _; rw [HE7.out]; unfold pOpD; rw [and_ok hp8]
              have HM8 := hid hm8
              have O8 := hid (O7.out.beside b8 (by omega))
              have A8 := hid (A7.out.beside b8 (by omega))
              have B8 : Hid (Beside bx w w8) := B7.out.trans b8
              have P8H := hid P8
              have B78 := hid b8
              clear hp8 hm8 P8 b8 O7 A7 B7 P7 HE7 M
              obtain ⟨o0, o1, o2, o3, o4, o5, p0, p1, p2, p3, p4, p5⟩ := O8.out
              obtain ⟨a0, a1, a2, a3, a4, a5, z0, z1, z2, z3, z4, z5⟩ := A8.out
              clear O8
              go_wp2_with fail
              rw [HE8.out]
              refine bodyPost_ret (v := .agg #[_, _, _, _, _, _]) (by simp [results, Tryd.results65, go_sem, a0, a1, a2, a3, a4, a5]) rfl ⟨⟨m8, HM8.out, P8H.out.put6 (by omega) _ _ _ _ _ _⟩, ⟨_, rfl, _, rfl, ints_none _ _⟩, be_put6 B8.out (Nat.le_refl _) _ _ _ _ _ _⟩

        · have N := hid (fun W hW => number_is bx m4 en T W hW)
          go_wp2_with fail
          go_at_call 81
          refine (N.out _ P5.out).mono ?_
          rintro e w5 h5
          cases hp5 : pNum en (T.drop m4) with
          | error f =>
            rw [hp5] at h5
            obtain ⟨rfl, b5⟩ := h5
            refine ⟨rfl, ?_⟩
            show ToldR bx en T w _ (pOp en (T.drop n)) _ _
            rw [HE4.out]
            unfold pOpC
            rw [pMid_3, and_err (and_err hp5)]
            exact ⟨rfl, B5.out.trans b5⟩
          | ok z =>
            obtain ⟨x, l5⟩ := z
            rw [hp5] at h5
            obtain ⟨⟨m5, hm5, P6'⟩, rfl, b5⟩ := h5
            have hm5' : l5 = T.drop m5 := hm5
            subst hm5'
            have HE7 : Hid (pOp en (T.drop n) = pOpD en (3, s, x, [], false, false) (T.drop m5)) := by show _ = _; rw [HE4.out]; unfold pOpC; rw [pMid_3, and_ok hp5]; rfl
            have O6 := hid (O5.out.beside b5 (by omega))
            have A6 := hid (A5.out.beside b5 (by omega))
            have B6 : Hid (Beside bx w w5) := B5.out.trans b5
            have P6 := hid P6'
            have hs5 : w3.heap.size < w5.heap.size := O6.out.lt
            clear P6' b5 hm5 hp5 O5 A5 B5 P5 HE4 N q0 q1 y1
            have x2 := O6.out.c2
            have y2 := O6.out.z2
            have O7 := hid ((O6.out).set2 x)
            have A7 := hid ((A6.out).other (g := w3.heap.size) (i := 2) (by omega) (.int .i64 x))
            have P7 := hid ((P6.out).set (g := w3.heap.size) (i := 2) hb3 (.int .i64 x))
            have B7 : Hid (Beside bx w (w5.setCell ⟨w3.heap.size, 2, none⟩ (.int .i64 x))) := (B6.out).setNew (p := ⟨w3.heap.size, 2, none⟩) (by simp; omega) (.int .i64 x)
            clear O6 A6 B6 P6
            have M := hid (fun W hW => mark_is bx (m5) en ⟨#[93]⟩ T W hW)
            go_wp2_with fail
            go_at_call 79
            refine (M.out _ P7.out).mono ?_
            rintro e w8 h8
            cases hp8 : pMark en ⟨#[93]⟩ (T.drop (m5)) with
            | error f =>
              rw [hp8] at h8
              obtain ⟨rfl, b8⟩ := h8
              refine ⟨rfl, ?_⟩
              show ToldR bx en T w _ (pOp en (T.drop n)) _ _
              rw [HE7.out]
              unfold pOpD
              rw [and_err hp8]
              exact ⟨rfl, B7.out.trans b8⟩
            | ok z =>
              obtain ⟨u8, l8⟩ := z
              rw [hp8] at h8
              obtain ⟨⟨m8, hm8, P8⟩, rfl, b8⟩ := h8
              have HE8 : Hid (pOp en (T.drop n) = .ok ((3, s, x, [], false, false), l8)) := by show _ = _; rw [HE7.out]; unfold pOpD; rw [and_ok hp8]
              have HM8 := hid hm8
              have O8 := hid (O7.out.beside b8 (by omega))
              have A8 := hid (A7.out.beside b8 (by omega))
              have B8 : Hid (Beside bx w w8) := B7.out.trans b8
              have P8H := hid P8
              have B78 := hid b8
              clear hp8 hm8 P8 b8 O7 A7 B7 P7 HE7 M
              obtain ⟨o0, o1, o2, o3, o4, o5, p0, p1, p2, p3, p4, p5⟩ := O8.out
              obtain ⟨a0, a1, a2, a3, a4, a5, z0, z1, z2, z3, z4, z5⟩ := A8.out
              clear O8
              go_wp2_with fail
              rw [HE8.out]
              refine bodyPost_ret (v := .agg #[_, _, _, _, _, _]) (by simp [results, Tryd.results65, go_sem, a0, a1, a2, a3, a4, a5]) rfl ⟨⟨m8, HM8.out, P8H.out.put6 (by omega) _ _ _ _ _ _⟩, ⟨_, rfl, _, rfl, ints_none _ _⟩, be_put6 B8.out (Nat.le_refl _) _ _ _ _ _ _⟩

        · cases hs : seesP (T.drop m4) 1 ⟨#[110, 105, 108]⟩ with
          | true =>
            have S := hid (fun W hW => sees_is bx m4 en 1 ⟨#[110, 105, 108]⟩ T W (by decide) hW)
            rw [hs] at S
            go_wp2_with fail
            go_at_call 66
            refine (S.out _ P5.out).mono ?_
            rintro e w5 ⟨rfl, b5⟩
            have P6 := hid (P5.out.keep (b5.mono P5.out.lt))
            have b5b : Beside bx (w4.setCell ⟨w3.heap.size, 1, none⟩ (.string s)) w5 := Beside.of_below b5
            have O6 := hid (O5.out.beside b5b (by omega))
            have A6 := hid (A5.out.beside b5b (by omega))
            have B6 : Hid (Beside bx w w5) := B5.out.trans b5b
            have hs5 : w3.heap.size < w5.heap.size := O6.out.lt
            clear b5 b5b O5 A5 B5 P5 S q0 q1 y1
            have hn4 := sees_lt hs
            have x4 := O6.out.c4
            have y4 := O6.out.z4
            have x5 := O6.out.c5
            have y5 := O6.out.z5
            have k1 := P6.out.c1
            have ky1 := P6.out.z1
            have nb1 : ¬ w3.heap.size = bx := by omega
            have nb2 : ¬ bx = w3.heap.size := by omega
            have HE7 : Hid (pOp en (T.drop n) = pOpD en (4, s, 0, [], true, true) (T.drop (m4 + 1))) := by show _ = _; rw [HE4.out]; unfold pOpC; rw [pMid_4nil hs, List.tail_drop]; rfl
            have O7 := hid ((((O6.out).set5 true).set4 true).other (g := bx) (i := 1) (by omega) (.int .i64 (RowKit.wrap64 ((m4 : Int) + 1))))
            have A7 := hid ((((A6.out).other (g := w3.heap.size) (i := 5) (by omega) (.bool true)).other (g := w3.heap.size) (i := 4) (by omega) (.bool true)).other (g := bx) (i := 1) (by omega) (.int .i64 (RowKit.wrap64 ((m4 : Int) + 1))))
            have P7 := hid ((((P6.out).set (g := w3.heap.size) (i := 5) hb3 (.bool true)).set (g := w3.heap.size) (i := 4) hb3 (.bool true)).took hn4)
            have B7 : Hid (Beside bx w (((w5.setCell ⟨w3.heap.size, 5, none⟩ (.bool true)).setCell ⟨w3.heap.size, 4, none⟩ (.bool true)).setCell ⟨bx, 1, none⟩ (.int .i64 (RowKit.wrap64 ((m4 : Int) + 1))))) := (((B6.out).setNew (p := ⟨w3.heap.size, 5, none⟩) (by simp; omega) (.bool true)).setNew (p := ⟨w3.heap.size, 4, none⟩) (by simp; omega) (.bool true)).setCell (p := ⟨bx, 1, none⟩) rfl (.int .i64 (RowKit.wrap64 ((m4 : Int) + 1)))
            clear O6 A6 B6 P6 HE4
            have M := hid (fun W hW => mark_is bx (m4 + 1) en ⟨#[93]⟩ T W hW)
            go_wp2_with fail
            go_at_call 79
            refine (M.out _ P7.out).mono ?_
            rintro e w8 h8
            cases hp8 : pMark en ⟨#[93]⟩ (T.drop (m4 + 1)) with
            | error f =>
              rw [hp8] at h8
              obtain ⟨rfl, b8⟩ := h8
              refine ⟨rfl, ?_⟩
              show ToldR bx en T w _ (pOp en (T.drop n)) _ _
              rw [HE7.out]
              unfold pOpD
              rw [and_err hp8]
              exact ⟨rfl, B7.out.trans b8⟩
            | ok z =>
              obtain ⟨u8, l8⟩ := z
              rw [hp8] at h8
              obtain ⟨⟨m8, hm8, P8⟩, rfl, b8⟩ := h8
              have HE8 : Hid (pOp en (T.drop n) = .ok ((4, s, 0, [], true, true), l8)) := by show _ = _; rw [HE7.out]; unfold pOpD; rw [and_ok hp8]
              have HM8 := hid hm8
              have O8 := hid (O7.out.beside b8 (by omega))
              have A8 := hid (A7.out.beside b8 (by omega))
              have B8 : Hid (Beside bx w w8) := B7.out.trans b8
              have P8H := hid P8
              have B78 := hid b8
              clear hp8 hm8 P8 b8 O7 A7 B7 P7 HE7 M
              obtain ⟨o0, o1, o2, o3, o4, o5, p0, p1, p2, p3, p4, p5⟩ := O8.out
              obtain ⟨a0, a1, a2, a3, a4, a5, z0, z1, z2, z3, z4, z5⟩ := A8.out
              clear O8
              go_wp2_with fail
              rw [HE8.out]
              refine bodyPost_ret (v := .agg #[_, _, _, _, _, _]) (by simp [results, Tryd.results65, go_sem, a0, a1, a2, a3, a4, a5]) rfl ⟨⟨m8, HM8.out, P8H.out.put6 (by omega) _ _ _ _ _ _⟩, ⟨_, rfl, _, rfl, ints_none _ _⟩, be_put6 B8.out (Nat.le_refl _) _ _ _ _ _ _⟩

          | false =>
            have S := hid (fun W hW => sees_is bx m4 en 1 ⟨#[110, 105, 108]⟩ T W (by decide) hW)
            rw [hs] at S
            go_wp2_with fail
            go_at_call 66
            refine (S.out _ P5.out).mono ?_
            rintro e w5 ⟨rfl, b5⟩
            have P6 := hid (P5.out.keep (b5.mono P5.out.lt))
            have b5b : Beside bx (w4.setCell ⟨w3.heap.size, 1, none⟩ (.string s)) w5 := Beside.of_below b5
            have O6 := hid (O5.out.beside b5b (by omega))
            have A6 := hid (A5.out.beside b5b (by omega))
            have B6 : Hid (Beside bx w w5) := B5.out.trans b5b
            have hs5 : w3.heap.size < w5.heap.size := O6.out.lt
            clear b5 b5b O5 A5 B5 P5 S q0 q1 y1
            have x5 := O6.out.c5
            have y5 := O6.out.z5
            have O7 := hid ((O6.out).set5 false)
            have A7 := hid ((A6.out).other (g := w3.heap.size) (i := 5) (by omega) (.bool false))
            have P7 := hid ((P6.out).set (g := w3.heap.size) (i := 5) hb3 (.bool false))
            have B7 : Hid (Beside bx w (w5.setCell ⟨w3.heap.size, 5, none⟩ (.bool false))) := (B6.out).setNew (p := ⟨w3.heap.size, 5, none⟩) (by simp; omega) (.bool false)
            clear O6 A6 B6 P6

            by_cases h2 : (lookT en T m4).1 = 2
            · have HEN : Hid (pOp en (T.drop n) = pOpD en (4, s, (lookT en T m4).2.2.2, [], true, false) (T.drop (m4 + 1))) := by show _ = _; rw [HE4.out]; unfold pOpC; rw [pMid_4num hs h2]; rfl
              have N := hid (fun W hW => number_is bx m4 en T W hW)
              rw [pNum_ok h2] at N
              have L := hid (fun W hW => look_is bx m4 en T W hW)
              generalize ht : lookT en T m4 = t at L h2 N HEN
              have tf := tokf0 t.1 t.2.1 t.2.2.1 t.2.2.2
              clear ht
              go_wp2_with fail
              go_at_call 41
              refine (L.out _ P7.out).mono ?_
              rintro e w6 ⟨rfl, b6⟩
              have P8 := hid (P7.out.keep (b6.mono P7.out.lt))
              have O8 := hid (O7.out.beside (Beside.of_below (bx := bx) b6) (by omega))
              have A8 := hid (A7.out.beside (Beside.of_below (bx := bx) b6) (by omega))
              have B8 : Hid (Beside bx w w6) := B7.out.trans (Beside.of_below b6)
              have hs6 : w3.heap.size < w6.heap.size := O8.out.lt
              clear b6 O7 A7 B7 P7
              have x4 := O8.out.c4
              have y4 := O8.out.z4
              have P9 := hid (P8.out.set (g := w3.heap.size) (i := 4) hb3 (.bool true))
              go_wp2_with fail
              go_at_call 81
              refine (N.out _ P9.out).mono ?_
              rintro e w7 ⟨⟨m7, hm7, P10⟩, rfl, b7⟩
              have HM7 := hid hm7
              have HE7 : Hid (pOp en (T.drop n) = pOpD en (4, s, t.2.2.2, [], true, false) (T.drop m7)) := by show _ = _; rw [HEN.out]; exact congrArg _ HM7.out
              have b47 : Beside bx (w6.setCell ⟨w3.heap.size, 4, none⟩ (.bool true)) w7 := b7
              have O9 := hid ((O8.out.set4 true).beside b47 (by omega))
              have A9 := hid ((A8.out.other (g := w3.heap.size) (i := 4) (by omega) (.bool true)).beside b47 (by omega))
              have B9 : Hid (Beside bx w w7) := (B8.out.setNew (p := ⟨w3.heap.size, 4, none⟩) (by simp; omega) (.bool true)).trans b47
              have P9' := hid P10
              clear b7 b47 hm7 P10 P9 O8 A8 B8 P8 N HE4 HEN
              have P9 := P9'
              clear P9'
              have hs7 : w3.heap.size < w7.heap.size := O9.out.lt
              have x2 := O9.out.c2
              have y2 := O9.out.z2
              have O7 := hid ((O9.out).set2 t.2.2.2)
              have A7 := hid ((A9.out).other (g := w3.heap.size) (i := 2) (by omega) (.int .i64 t.2.2.2))
              have P7 := hid ((P9.out).set (g := w3.heap.size) (i := 2) hb3 (.int .i64 t.2.2.2))
              have B7 : Hid (Beside bx w (w7.setCell ⟨w3.heap.size, 2, none⟩ (.int .i64 t.2.2.2))) := (B9.out).setNew (p := ⟨w3.heap.size, 2, none⟩) (by simp; omega) (.int .i64 t.2.2.2)
              clear O9 A9 B9 P9
              have M := hid (fun W hW => mark_is bx (m7) en ⟨#[93]⟩ T W hW)
              go_wp2_with fail
              go_at_call 79
              refine (M.out _ P7.out).mono ?_
              rintro e w8 h8
              cases hp8 : pMark en ⟨#[93]⟩ (T.drop (m7)) with
              | error f =>
                rw [hp8] at h8
                obtain ⟨rfl, b8⟩ := h8
                refine ⟨rfl, ?_⟩
                show ToldR bx en T w _ (pOp en (T.drop n)) _ _
                rw [HE7.out]
                unfold pOpD
                rw [and_err hp8]
                exact ⟨rfl, B7.out.trans b8⟩
              | ok z =>
                obtain ⟨u8, l8⟩ := z
                rw [hp8] at h8
                obtain ⟨⟨m8, hm8, P8⟩, rfl, b8⟩ := h8
                have HE8 : Hid (pOp en (T.drop n) = .ok ((4, s, t.2.2.2, [], true, false), l8)) := by show _ = _; rw [HE7.out]; unfold pOpD; rw [and_ok hp8]
                have HM8 := hid hm8
                have O8 := hid (O7.out.beside b8 (by omega))
                have A8 := hid (A7.out.beside b8 (by omega))
                have B8 : Hid (Beside bx w w8) := B7.out.trans b8
                have P8H := hid P8
                have B78 := hid b8
                clear hp8 hm8 P8 b8 O7 A7 B7 P7 HE7 M
                obtain ⟨o0, o1, o2, o3, o4, o5, p0, p1, p2, p3, p4, p5⟩ := O8.out
                obtain ⟨a0, a1, a2, a3, a4, a5, z0, z1, z2, z3, z4, z5⟩ := A8.out
                clear O8
                go_wp2_with fail
                rw [HE8.out]
                refine bodyPost_ret (v := .agg #[_, _, _, _, _, _]) (by simp [results, Tryd.results65, go_sem, a0, a1, a2, a3, a4, a5]) rfl ⟨⟨m8, HM8.out, P8H.out.put6 (by omega) _ _ _ _ _ _⟩, ⟨_, rfl, _, rfl, ints_none _ _⟩, be_put6 B8.out (Nat.le_refl _) _ _ _ _ _ _⟩

            · have HE7 : Hid (pOp en (T.drop n) = pOpD en (4, s, 0, [], false, false) (T.drop m4)) := by show _ = _; rw [HE4.out]; unfold pOpC; rw [pMid_4no hs h2]; rfl
              have L := hid (fun W hW => look_is bx m4 en T W hW)
              generalize ht : lookT en T m4 = t at L h2
              have tf := tokf0 t.1 t.2.1 t.2.2.1 t.2.2.2
              clear ht
              go_wp2_with fail
              go_at_call 41
              refine (L.out _ P7.out).mono ?_
              rintro e w6 ⟨rfl, b6⟩
              have P9 := hid (P7.out.keep (b6.mono P7.out.lt))
              have O9 := hid (O7.out.beside (Beside.of_below (bx := bx) b6) (by omega))
              have A9 := hid (A7.out.beside (Beside.of_below (bx := bx) b6) (by omega))
              have B9 : Hid (Beside bx w w6) := B7.out.trans (Beside.of_below b6)
              have hs6 : w3.heap.size < w6.heap.size := O9.out.lt
              clear b6 O7 A7 B7 P7
              have O7 := O9
              have A7 := A9
              have B7 := B9
              have P7 := P9
              clear O9 A9 B9 P9 HE4
              have M := hid (fun W hW => mark_is bx (m4) en ⟨#[93]⟩ T W hW)
              go_wp2_with fail
              go_at_call 79
              refine (M.out _ P7.out).mono ?_
              rintro e w8 h8
              cases hp8 : pMark en ⟨#[93]⟩ (T.drop (m4)) with
              | error f =>
                rw [hp8] at h8
                obtain ⟨rfl, b8⟩ := h8
                refine ⟨rfl, ?_⟩
                show ToldR bx en T w _ (pOp en (T.drop n)) _ _
                rw [HE7.out]
                unfold pOpD
                rw [and_err hp8]
                exact ⟨rfl, B7.out.trans b8⟩
              | ok z =>
                obtain ⟨u8, l8⟩ := z
                rw [hp8] at h8
                obtain ⟨⟨m8, hm8, P8⟩, rfl, b8⟩ := h8
                have HE8 : Hid (pOp en (T.drop n) = .ok ((4, s, 0, [], false, false), l8)) := by show _ = _; rw [HE7.out]; unfold pOpD; rw [and_ok hp8]
                have HM8 := hid hm8
                have O8 := hid (O7.out.beside b8 (by omega))
                have A8 := hid (A7.out.beside b8 (by omega))
                have B8 : Hid (Beside bx w w8) := B7.out.trans b8
                have P8H := hid P8
                have B78 := hid b8
                clear hp8 hm8 P8 b8 O7 A7 B7 P7 HE7 M
                obtain ⟨o0, o1, o2, o3, o4, o5, p0, p1, p2, p3, p4, p5⟩ := O8.out
                obtain ⟨a0, a1, a2, a3, a4, a5, z0, z1, z2, z3, z4, z5⟩ := A8.out
                clear O8
                go_wp2_with fail
                rw [HE8.out]
                refine bodyPost_ret (v := .agg #[_, _, _, _, _, _]) (by simp [results, Tryd.results65, go_sem, a0, a1, a2, a3, a4, a5]) rfl ⟨⟨m8, HM8.out, P8H.out.put6 (by omega) _ _ _ _ _ _⟩, ⟨_, rfl, _, rfl, ints_none _ _⟩, be_put6 B8.out (Nat.le_refl _) _ _ _ _ _ _⟩

end Go.Proofs.YtegeiojcdjnmjaaDoor
namespace Go.Proofs.YtegeiojcdjnmjaaDoor
set_option linter.unusedVariables false
set_option linter.unusedSimpArgs false
open Go.RowKit

section
variable {P : Program} {ops : Array Oper} {Q : Exit → Act → World → Prop} {md : Region.Mode}
/-- How many operations are still to come. -/
def leftN (ops : Array Oper) (listed : Array Bool) : Nat := ((List.range ops.size).filter fun i => !listed.getD i true).length
theorem filter_lt {α : Type} (p q : α → Bool) : ∀ (l : List α), (∀ x ∈ l, q x = true → p x = true) → (∃ x ∈ l, p x = true ∧ q x = false) → (l.filter q).length < (l.filter p).length
  | [], _, h => by obtain ⟨x, hx, _⟩ := h; cases hx
  | a :: l, h1, h2 => by
    have hle : (l.filter q).length ≤ (l.filter p).length := by
      clear h2
      induction l with
      | nil => simp
      | cons b l ih =>
        have := ih (fun x hx => h1 x (by simp at hx ⊢; rcases hx with rfl | hx <;> simp_all))
        have hb := h1 b (by simp)
        simp only [List.filter_cons]
        cases hq : q b <;> cases hp : p b <;> simp_all <;> omega
    by_cases ha : p a = true ∧ q a = false
    · simp only [List.filter_cons, ha.1, ha.2]
      simp
      omega
    · have : ∃ x ∈ l, p x = true ∧ q x = false := by
        obtain ⟨x, hx, hp⟩ := h2
        simp at hx
        rcases hx with rfl | hx
        · exact absurd hp ha
        · exact ⟨x, hx, hp⟩
      have ih := filter_lt p q l (fun x hx => h1 x (by simp [hx])) this
      simp only [List.filter_cons]
      have ha1 := h1 a (by simp)
      cases hq : q a <;> cases hp : p a <;> simp_all
theorem leftN_set {listed : Array Bool} {i : Nat} (hi : i < ops.size) (h : listed.getD i true = false) : leftN ops (listed.setIfInBounds i true) < leftN ops listed := by
  unfold leftN
  have hl : i < listed.size := by
    rcases Nat.lt_or_ge i listed.size with c | c
    · exact c
    · rw [Array.getD_eq_getD_getElem?, Array.getElem?_eq_none c] at h; cases h
  refine filter_lt _ _ _ (fun x _ hx => ?_) ⟨i, by simpa using hi, by simp [h], ?_⟩
  · simp only [Bool.not_eq_true'] at hx ⊢
    by_cases e : i = x
    · subst e
      rw [Array.getD_eq_getD_getElem?, Array.getElem?_setIfInBounds_self_of_lt hl] at hx
      cases hx
    · rwa [getD_set_ne true e] at hx
  · rw [Array.getD_eq_getD_getElem?, Array.getElem?_setIfInBounds_self_of_lt hl]
    rfl
/-- By a statement that each operation which may come carries on. -/
theorem wpAny_inv (J : Array Bool → Act → World → Prop)
    (hstep : ∀ listed a w, J listed a w → ∀ i, i ∈ Region.ready md ops listed → wpOp P ops Q i (J (listed.setIfInBounds i true)) a w)
    (hend : ∀ listed a w, J listed a w → Region.ready md ops listed = [] → Q .normal a w) :
    ∀ (fuel : Nat) (listed : Array Bool) (a : Act) (w : World), leftN ops listed ≤ fuel → J listed a w → wpAny P md ops Q fuel listed a w := by
  intro fuel
  induction fuel with
  | zero =>
    intro listed a w hf hJ
    have hr : Region.ready md ops listed = [] := by
      cases hr : Region.ready md ops listed with
      | nil => rfl
      | cons x xs =>
        have hx : x ∈ Region.ready md ops listed := by rw [hr]; simp
        rw [mem_ready] at hx
        obtain ⟨h1, o, ho, h2⟩ := hx
        have := leftN_set (ops := ops) (Array.getElem?_eq_some_iff.1 ho).1 h1
        omega
    exact ⟨hr, hend listed a w hJ hr⟩
  | succ fuel ih =>
    intro listed a w hf hJ
    refine ⟨fun hr => hend listed a w hJ hr, fun i hi => ?_⟩
    have hi' := hi
    rw [mem_ready] at hi'
    obtain ⟨h1, o, ho, h2⟩ := hi'
    have hl := leftN_set (ops := ops) (Array.getElem?_eq_some_iff.1 ho).1 h1
    exact wpOp_mono (fun a' w' hJ' => ih _ a' w' (by omega) hJ') (hstep listed a w hJ i hi)
end
/-- One value put in. -/
def upV (val : Nat → Value) (i : Nat) (v : Value) : Nat → Value := fun j => if j = i then v else val j
theorem upV_self (val : Nat → Value) (i : Nat) (v : Value) : upV val i v i = v := by simp [upV]
theorem upV_ne (val : Nat → Value) (i j : Nat) (v : Value) (h : j ≠ i) : upV val i v j = val j := by simp [upV, h]
/-- What each operation waits for stands ahead of it. -/
def aheadB (ops : Array Oper) : Bool := (List.range ops.size).all fun i => match ops[i]? with
  | none => true
  | some o => o.after.all fun e => !Region.binds .any e || decide (e.on < i)
theorem ahead_of {ops : Array Oper} (h : aheadB ops = true) {i : Nat} {o : Oper} (ho : ops[i]? = some o) (e : Edge) (he : e ∈ o.after) (hb : Region.binds .any e = true) : e.on < i := by
  unfold aheadB at h
  rw [List.all_eq_true] at h
  have h1 := h i (List.mem_range.2 (Array.getElem?_eq_some_iff.1 ho).1)
  rw [ho] at h1
  simp only [Array.all_eq_true_iff_forall_mem, Bool.or_eq_true, Bool.not_eq_true', decide_eq_true_eq] at h1
  rcases h1 e he with c | c
  · rw [hb] at c; cases c
  · exact c
theorem all_listed {ops : Array Oper} (h : aheadB ops = true) {listed : Array Bool} (hs : listed.size = ops.size) (hr : Region.ready .any ops listed = []) : ∀ i, i < ops.size → listed.getD i false = true := by
  intro i
  induction i using Nat.strongRecOn with
  | ind i ih =>
    intro hi
    cases hg : listed.getD i false with
    | true => rfl
    | false =>
      exfalso
      have ho : ops[i]? = some ops[i] := Array.getElem?_eq_getElem hi
      have hm : i ∈ Region.ready .any ops listed := by
        rw [mem_ready]
        refine ⟨?_, _, ho, fun e he hb => ?_⟩
        · have hl : i < listed.size := by omega
          rw [Array.getD_eq_getD_getElem?, Array.getElem?_eq_getElem hl] at hg ⊢
          exact hg
        · have hlt := ahead_of h ho e he hb
          exact ih e.on hlt (by omega)
      rw [hr] at hm
      cases hm
/-- A region that draws its order: R i v w: v is what operation i has yielded, seen from the world w; nothing that lay there turns. -/
theorem wp_region_inv {P : Program} {ops : Array Oper} {Q : Exit → Act → World → Prop} {id : Nat} {a0 : Act} {w0 : World} (hm : P.follows .mixedOrders = true) (hah : aheadB ops = true)
    (frame : (Nat → Value) → Act) (R : Nat → Value → World → Prop) (val0 : Nat → Value) (h0 : a0 = frame val0)
    (hstab : ∀ i v w w', R i v w → Below w.heap.size w w' → R i v w')
    (hop : ∀ i o, ops[i]? = some o → ∀ val w, Below w0.heap.size w0 w → (∀ e ∈ o.after, Region.binds .any e = true → R e.on (val e.on) w) →
      if Region.wanted o (yielded ops (frame val).tmps) then o.wp P (frame val) w (fun a' w' => ∃ v, a' = frame (upV val i v) ∧ R i v w' ∧ Below w.heap.size w w') Q
      else (frame val).put o.dst undef = frame (upV val i undef) ∧ R i undef w)
    (hend : ∀ val w, Below w0.heap.size w0 w → (∀ i, i < ops.size → R i (val i) w) → Q .normal (frame val) w) : (Code.region id ops true).wp P Q a0 w0 := by
  refine wp_region_any hm ?_
  refine wpAny_inv (fun listed a w => listed.size = ops.size ∧ ∃ val, a = frame val ∧ Below w0.heap.size w0 w ∧ ∀ i, i < ops.size → listed.getD i false = true → R i (val i) w) ?_ ?_ _ _ _ _ ?_ ?_
  · rintro listed a w ⟨hs, val, rfl, hb, hR⟩ i hi
    rw [mem_ready] at hi
    obtain ⟨h1, o, ho, h2⟩ := hi
    have hio : i < ops.size := (Array.getElem?_eq_some_iff.1 ho).1
    have key : ∀ v w', R i v w' → Below w.heap.size w w' → ((listed.setIfInBounds i true).size = ops.size ∧ ∃ val', frame (upV val i v) = frame val' ∧ Below w0.heap.size w0 w' ∧ ∀ j, j < ops.size → (listed.setIfInBounds i true).getD j false = true → R j (val' j) w') := fun v w' hv hw => by
      refine ⟨by simpa using hs, upV val i v, rfl, hb.trans (hw.mono hb.size), fun j hj hl => ?_⟩
      by_cases e : j = i
      · subst e
        rw [upV_self]
        exact hv
      · rw [upV_ne _ _ _ _ e]
        rw [getD_set_ne false (fun c => e c.symm)] at hl
        exact hstab _ _ _ _ (hR j hj hl) hw
    have hk := hop i o ho val w hb (fun e he hbd => hR e.on (by have := ahead_of hah ho e he hbd; omega) (h2 e he hbd))
    unfold wpOp
    rw [ho]
    simp only
    by_cases hw : Region.wanted o (yielded ops (frame val).tmps) = true
    · rw [if_pos hw] at hk ⊢
      exact .inl (Oper.wp_mono (fun a' w' ⟨v, e, hv, hbv⟩ => by rw [e]; exact key v w' hv hbv) hk)
    · rw [if_neg hw] at hk ⊢
      rw [hk.1]
      exact key undef w hk.2 (Below.refl _ _)
  · rintro listed a w ⟨hs, val, rfl, hb, hR⟩ hr
    exact hend val w hb (fun i hi => hR i hi (all_listed hah hs hr i hi))
  · unfold leftN
    exact Nat.le_trans (List.length_filter_le _ _) (by simp)
  · refine ⟨by simp, val0, h0, ⟨rfl, rfl, rfl, Nat.le_refl _, fun _ _ => rfl⟩, fun i hi hl => ?_⟩
    simp [Array.getD_eq_getD_getElem?, hi] at hl
/-- Each operation of a list, with its number. -/
def allOps (F : Nat → Oper → Prop) : Nat → List Oper → Prop
  | _, [] => True
  | k, o :: l => F k o ∧ allOps F (k + 1) l
theorem allOps_at {F : Nat → Oper → Prop} : ∀ (l : List Oper) (k j : Nat) (o : Oper), allOps F k l → l[j]? = some o → F (k + j) o
  | [], _, _, _, _, h => by simp at h
  | a :: l, k, 0, o, h, he => by simp at he; subst he; exact h.1
  | a :: l, k, j + 1, o, h, he => by
    have := allOps_at l (k + 1) j o h.2 (by simpa using he)
    have e : k + 1 + j = k + (j + 1) := by omega
    rwa [e] at this
/-- What is known of those that an operation waits for. -/
def depsAll (R : Nat → Value → World → Prop) (val : Nat → Value) (w : World) : List Edge → Prop
  | [] => True
  | e :: l => (Region.binds .any e = true → R e.on (val e.on) w) ∧ depsAll R val w l
theorem depsAll_of {R : Nat → Value → World → Prop} {val : Nat → Value} {w : World} : ∀ (l : List Edge), (∀ e ∈ l, Region.binds .any e = true → R e.on (val e.on) w) → depsAll R val w l
  | [], _ => trivial
  | e :: l, h => ⟨h e (by simp), depsAll_of l (fun x hx => h x (by simp [hx]))⟩
theorem depsAll_get {R : Nat → Value → World → Prop} {val : Nat → Value} {w : World} : ∀ {l : List Edge}, depsAll R val w l → ∀ j, (l.any fun e => Region.binds .any e && e.on == j) = true → R j (val j) w
  | [], _, j, h => by cases h
  | e :: l, hd, j, h => by
    simp only [List.any_cons, Bool.or_eq_true, Bool.and_eq_true, beq_iff_eq] at h
    rcases h with ⟨hb, rfl⟩ | h
    · exact hd.1 hb
    · exact depsAll_get hd.2 j (by simpa using h)
/-- What is asked of one operation. -/
def OpAsk (P : Program) (ops : Array Oper) (Q : Exit → Act → World → Prop) (w0 : World) (frame : (Nat → Value) → Act) (R : Nat → Value → World → Prop) (i : Nat) (o : Oper) : Prop :=
  ∀ val w, Below w0.heap.size w0 w → depsAll R val w o.after.toList →
      if Region.wanted o (yielded ops (frame val).tmps) then o.wp P (frame val) w (fun a' w' => ∃ v, a' = frame (upV val i v) ∧ R i v w' ∧ Below w.heap.size w w') Q
      else (frame val).put o.dst undef = frame (upV val i undef) ∧ R i undef w
/-- A region that draws its order, operation by operation. -/
theorem wp_region_ask {P : Program} {ops : Array Oper} {Q : Exit → Act → World → Prop} {id : Nat} {a0 : Act} {w0 : World} (hm : P.follows .mixedOrders = true) (hah : aheadB ops = true)
    (frame : (Nat → Value) → Act) (R : Nat → Value → World → Prop) (val0 : Nat → Value) (h0 : a0 = frame val0)
    (hstab : ∀ i v w w', R i v w → Below w.heap.size w w' → R i v w')
    (l : List Oper) (hl : ops.toList = l) (hop : allOps (OpAsk P ops Q w0 frame R) 0 l)
    (hend : ∀ val w, Below w0.heap.size w0 w → (∀ i, i < ops.size → R i (val i) w) → Q .normal (frame val) w) : (Code.region id ops true).wp P Q a0 w0 := by
  refine wp_region_inv hm hah frame R val0 h0 hstab (fun i o ho val w hb hd => ?_) hend
  have h1 := allOps_at l 0 i o hop (by rw [← hl]; simpa using ho)
  rw [Nat.zero_add] at h1
  exact h1 val w hb (depsAll_of _ (fun e he => hd e (by simpa using he)))
section
variable {P : Program} {ops : Array Oper} {Q : Exit → Act → World → Prop} {w0 : World} {frame : (Nat → Value) → Act} {R : Nat → Value → World → Prop} {i : Nat} {o : Oper}
/-- What an operation must come to. -/
def OpDoes (P : Program) (Q : Exit → Act → World → Prop) (R : Nat → Value → World → Prop) (i : Nat) (o : Oper) (A : Act) (w : World) : Prop :=
  ∀ K : Act → World → Prop, (∀ v w', R i v w' → Below w.heap.size w w' → K (A.put o.dst v) w') → o.wp P A w K Q
theorem ask_plain (hg : o.guard = none) (hput : ∀ val v, (frame val).put o.dst v = frame (upV val i v)) (h : ∀ val w, Below w0.heap.size w0 w → depsAll R val w o.after.toList → OpDoes P Q R i o (frame val) w) : OpAsk P ops Q w0 frame R i o := by
  intro val w hb hd
  rw [if_pos (by simp [Region.wanted, hg])]
  exact h val w hb hd _ (fun v w' hv hw => ⟨v, hput val v, hv, hw⟩)
theorem ask_yes (j : Nat) (b : Bool) (hg : o.guard = some (j, b)) (hput : ∀ val v, (frame val).put o.dst v = frame (upV val i v)) (hy : ∀ val w, depsAll R val w o.after.toList → yielded ops (frame val).tmps j = some b) (h : ∀ val w, Below w0.heap.size w0 w → depsAll R val w o.after.toList → OpDoes P Q R i o (frame val) w) : OpAsk P ops Q w0 frame R i o := by
  intro val w hb hd
  rw [if_pos (by simp [Region.wanted, hg, hy val w hd])]
  exact h val w hb hd _ (fun v w' hv hw => ⟨v, hput val v, hv, hw⟩)
theorem ask_no (j : Nat) (b c : Bool) (hg : o.guard = some (j, b)) (hbc : b ≠ c) (hput : ∀ val v, (frame val).put o.dst v = frame (upV val i v)) (hy : ∀ val w, depsAll R val w o.after.toList → yielded ops (frame val).tmps j = some c) (h : ∀ w, R i undef w) : OpAsk P ops Q w0 frame R i o := by
  intro val w hb hd
  rw [if_neg (by simp [Region.wanted, hg, hy val w hd]; exact fun e => hbc e.symm)]
  exact ⟨hput val undef, h w⟩
/-- One that yields a value and leaves the world. -/
theorem does_value {A : Act} {w : World} {v : Value} (h : (execOp A.eval o).run P w = .ok (.value v) w) (hR : R i v w) : OpDoes P Q R i o A w := by
  intro K hK
  unfold Oper.wp
  rw [h]
  exact hK v w hR (Below.refl _ _)
/-- One that yields a value in a world that has grown. -/
theorem does_grown {A : Act} {w w' : World} {v : Value} (h : (execOp A.eval o).run P w = .ok (.value v) w') (hR : R i v w') (hb : Below w.heap.size w w') : OpDoes P Q R i o A w := by
  intro K hK
  unfold Oper.wp
  rw [h]
  exact hK v w' hR hb
/-- A call. -/
theorem does_call {A : Act} {w : World} {f : FuncId} {args : Array Value} {C : Ending → World → Prop} (h : (execOp A.eval o).run P w = .ok (.enter f args) w) (hc : Calls P f args w C) (hR : ∀ e w', C e w' → ∃ v, e = .returned v ∧ R i v w' ∧ Below w.heap.size w w') : OpDoes P Q R i o A w := by
  intro K hK
  unfold Oper.wp
  rw [h]
  refine Calls.mono hc (fun e w' he => ?_)
  obtain ⟨v, rfl, hv, hb⟩ := hR e w' he
  exact hK v w' hv hb
end
end Go.Proofs.YtegeiojcdjnmjaaDoor
