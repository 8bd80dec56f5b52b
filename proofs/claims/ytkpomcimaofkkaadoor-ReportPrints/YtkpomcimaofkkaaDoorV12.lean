/-
  The document's Can of a report.
  ReportReads: whether two reports are the same; a text's report, or its fault: both answer alike.
  report.Print, the walk.
-/
import Derived.Test.YtkpomcimaofkkaaDoorV11
import Derived.Test.YtkpomcimaofkkaaDoorV1
import Derived.Test.YtkpomcimaofkkaaDoorV6
import Derived.Test.YtkpomcimaofkkaaDoorV2
import Derived.Test.YtkpomcimaofkkaaDoorV8
namespace Go.Proofs.YtkpomcimaofkkaaDoor.Rp
set_option linter.unusedVariables false
set_option linter.unusedSimpArgs false
open Go.RowKit Go.Lib

set_option maxHeartbeats 8000000 in
set_option maxRecDepth 100000 in
theorem dcan_is {S : Nat → Prop} (t : Int) (u : Bool) (aa : Option Addr) (al : List MA) (ac : Nat) (e x : Int) (oa : Option Addr) (os : List Int) (oc : Nat) (w : World) (hal : AnsS S w (.slice aa al.length ac) al) (hsm : ∀ a ∈ al, SmA a) :
    Calls Tryd.prog 7 #[.agg #[.int .i64 t, .bool u, .slice aa al.length ac, .int .i64 e, .int .i64 x, .slice oa os.length oc]] w fun en w' => en = .returned (.bool (canR (t, u, al, e, x, os))) ∧ Below w.heap.size w w' := by
  obtain ⟨W, hW⟩ : ∃ W, w.alloc (.cells #[.int .i64 t, .bool u, .slice aa al.length ac, .int .i64 e, .int .i64 x, .slice oa os.length oc] 25) = W := ⟨_, rfl⟩
  obtain ⟨o, ho⟩ : ∃ o, w.heap.size = o := ⟨_, rfl⟩
  have BW1 : Hid (Below w.heap.size w W) := by rw [← hW]; exact below_box _ _
  have BX : BoxW W o 25 #[.int .i64 t, .bool u, .slice aa al.length ac, .int .i64 e, .int .i64 x, .slice oa os.length oc] := by rw [← hW, ← ho]; exact box_new _ _ _
  have c0 : W.cell? ⟨o, 0, none⟩ = some (.int .i64 t) := BX.cell 0
  have c2 : W.cell? ⟨o, 2, none⟩ = some (.slice aa al.length ac) := BX.cell 2
  have c3 : W.cell? ⟨o, 3, none⟩ = some (.int .i64 e) := BX.cell 3
  have c4 : W.cell? ⟨o, 4, none⟩ = some (.int .i64 x) := BX.cell 4
  have c5 : W.cell? ⟨o, 5, none⟩ = some (.slice oa os.length oc) := BX.cell 5
  have HW : Hid (canR (t, u, al, e, x, os) = (((((((decide ((0 : Int) ≤ t) && decide (t ≤ (300 : Int))) && decide ((al.length : Int) ≤ (1000 : Int))) && !al.any wrongA) && (decide (0 ≤ e) && decide (e < 6))) && !(decide (x < 0) || decide (3 < x))) && decide ((os.length : Int) ≤ (300 : Int))) && ((x == 1) || ((os.length : Int) == 0)))) := by show (((((((decide ((0 : Int) ≤ t) && decide (t ≤ (300 : Int))) && decide ((al.length : Int) ≤ (1000 : Int))) && !al.any wrongA) && levelN e) && !((wordN answerWs x).toList == (⟨#[]⟩ : ByteArray).toList)) && decide ((os.length : Int) ≤ (300 : Int))) && ((x == 1) || ((os.length : Int) == 0))) = _; rw [answer_word_is]; rfl
  have HC := hid hal
  have HSM := hid hsm
  clear BX hal hsm
  by_cases h1 : t < 0
  · have h9 : ¬ (0 ≤ t) := by omega
    have HT : Hid (canR (t, u, al, e, x, os) = false) := by show _ = _; rw [HW.out]; simp [h9]
    clear h9
    clear HW HC HSM
    go_enter Tryd.func7, Tryd.ntmps7
    go_wp2_with fail
    go_ret
    exact ⟨by rw [HT.out]; rfl, by first | exact BW1.out | (rw [← ho]; exact BW1.out)⟩
  by_cases h2 : 300 < t
  · have h9 : ¬ (t ≤ 300) := by omega
    have HT : Hid (canR (t, u, al, e, x, os) = false) := by show _ = _; rw [HW.out]; simp [h9]
    clear h9
    clear HW HC HSM
    go_enter Tryd.func7, Tryd.ntmps7
    go_wp2_with fail
    go_ret
    exact ⟨by rw [HT.out]; rfl, by first | exact BW1.out | (rw [← ho]; exact BW1.out)⟩
  by_cases h3 : (1000 : Int) < (al.length : Int)
  · have h9 : ¬ ((al.length : Int) ≤ 1000) := by omega
    have HT : Hid (canR (t, u, al, e, x, os) = false) := by show _ = _; rw [HW.out]; simp [h9]
    clear h9
    clear HW HC HSM
    go_enter Tryd.func7, Tryd.ntmps7
    go_wp2_with fail
    go_ret
    exact ⟨by rw [HT.out]; rfl, by first | exact BW1.out | (rw [← ho]; exact BW1.out)⟩
  by_cases h4 : e < 0
  · have h9 : ¬ (0 ≤ e) := by omega
    have HT : Hid (canR (t, u, al, e, x, os) = false) := by show _ = _; rw [HW.out]; simp [h9]
    clear h9
    clear HW HC HSM
    go_enter Tryd.func7, Tryd.ntmps7
    go_wp2_with fail
    go_ret
    exact ⟨by rw [HT.out]; rfl, by first | exact BW1.out | (rw [← ho]; exact BW1.out)⟩
  by_cases h5 : 5 < e
  · have h9 : ¬ (e < 6) := by omega
    have HT : Hid (canR (t, u, al, e, x, os) = false) := by show _ = _; rw [HW.out]; simp [h9]
    clear h9
    clear HW HC HSM
    go_enter Tryd.func7, Tryd.ntmps7
    go_wp2_with fail
    go_ret
    exact ⟨by rw [HT.out]; rfl, by first | exact BW1.out | (rw [← ho]; exact BW1.out)⟩
  by_cases h6 : x < 0
  · have HT : Hid (canR (t, u, al, e, x, os) = false) := by show _ = _; rw [HW.out]; simp [h6]
    clear HW HC HSM
    go_enter Tryd.func7, Tryd.ntmps7
    go_wp2_with fail
    go_ret
    exact ⟨by rw [HT.out]; rfl, by first | exact BW1.out | (rw [← ho]; exact BW1.out)⟩
  by_cases h7 : 3 < x
  · have HT : Hid (canR (t, u, al, e, x, os) = false) := by show _ = _; rw [HW.out]; simp [h7]
    clear HW HC HSM
    go_enter Tryd.func7, Tryd.ntmps7
    go_wp2_with fail
    go_ret
    exact ⟨by rw [HT.out]; rfl, by first | exact BW1.out | (rw [← ho]; exact BW1.out)⟩
  by_cases h8 : (300 : Int) < (os.length : Int)
  · have h9 : ¬ ((os.length : Int) ≤ 300) := by omega
    have HT : Hid (canR (t, u, al, e, x, os) = false) := by show _ = _; rw [HW.out]; simp [h9]
    clear h9
    clear HW HC HSM
    go_enter Tryd.func7, Tryd.ntmps7
    go_wp2_with fail
    go_ret
    exact ⟨by rw [HT.out]; rfl, by first | exact BW1.out | (rw [← ho]; exact BW1.out)⟩
  have hgo : ∀ (hx : (x = 1) ∨ (¬ x = 1 ∧ ¬ (0 : Int) < (os.length : Int))), Hid (canR (t, u, al, e, x, os) = !al.any wrongA) := fun hx => by
    show _ = _
    have g1 : 0 ≤ t := by omega
    have g2 : t ≤ 300 := by omega
    have g3 : (al.length : Int) ≤ 1000 := by omega
    have g4 : 0 ≤ e := by omega
    have g5 : e < 6 := by omega
    have g8 : (os.length : Int) ≤ 300 := by omega
    have g9 : ((x == 1) || ((os.length : Int) == 0)) = true := by
      rcases hx with c | ⟨c1, c2⟩
      · simp [c]
      · have : (os.length : Int) = 0 := by omega
        simp [this]
    rw [HW.out, g9]
    simp only [g1, g2, g3, g4, g5, g8, h6, h7, decide_true, decide_false, Bool.true_and, Bool.and_true, Bool.or_false, Bool.not_false]
  by_cases h9 : x = 1
  · have HR := hgo (.inl h9)
    subst h9
    clear HW hgo
    go_enter Tryd.func7, Tryd.ntmps7
    go_wp2_with fail
    clear hW ho c0 c2 c3 c4 c5
    go_loopg [59] al.length (fun gg i wr => ∃ k : Nat, k ≤ al.length ∧ al.length - k ≤ gg ∧ i = .int .i64 k ∧ Aside (∀ j, j < k → wrongA (al.getD j default) = false) ∧ Aside (Below W.heap.size W wr))
    case atStart => exact ⟨0, Nat.zero_le _, by omega, rfl, fun j hj => by omega, Below.refl _ _⟩
    case round =>
      obtain ⟨k, hk, hg, rfl, NX, BX⟩ := hrel
      have BWR : Hid (Below w.heap.size w wr) := BW1.out.trans (BX.out.mono BW1.out.size)
      by_cases hlt : k < al.length
      · have hlti : (k : Int) < al.length := by omega
        have hk0 : (0 : Int) ≤ k := by omega
        have HR2 := RowsIn.keep HC.out (by omega) (R' := AnS S wr) (fun _ _ h => anS_keep _ _ _ _ _ _ h (keeps_below BWR.out) (fun _ _ h => h)) (keeps_below BWR.out) (fun _ _ h => h)
        obtain ⟨ao2, c2, e2, _, hrc⟩ := Tx.RowsIn.cells HR2 (by omega)
        obtain ⟨b, off, cs, hab, hbl, hlen, hrow, hcs⟩ := hrc k hlt
        simp only [Value.slice.injEq, true_and] at e2
        obtain ⟨e2, e3⟩ := e2
        subst hab
        subst e2
        subst e3
        obtain ⟨⟨y0, y1, y2, y3, y4, y5, cyc, y7, y8⟩, hx⟩ : ∃ x, al.getD k default = x := ⟨_, rfl⟩
        rw [hx] at hrow
        obtain ⟨cv, hcv, hcyc⟩ := hrow
        obtain ⟨ca, cc, rfl, _⟩ := id hcyc
        have hrow : cs = encA (y0, y1, y2, y3, y4, y5, cyc, y7, y8) (.slice ca cyc.length cc) := hcv
        replace hcyc : WhysS S wr (.slice ca cyc.length cc) cyc := hcyc
        clear hcv
        subst hrow
        have HX := hid hx
        have hsa := HSM.out (al.getD k default) (by rw [List.getD, List.getElem?_eq_getElem hlt]; exact List.getElem_mem _)
        rw [hx] at hsa
        clear hx HR2 hrc
        have k0 : wr.cell? ⟨b, off + k * 9, none⟩ = some (.int .i64 y0) := by simpa using hcs 0 (.int .i64 y0) rfl
        have k1 : wr.cell? ⟨b, off + k * 9 + 1, none⟩ = some (.int .i64 y1) := by simpa using hcs 1 (.int .i64 y1) rfl
        have k2 : wr.cell? ⟨b, off + k * 9 + 2, none⟩ = some (.int .i64 y2) := by simpa using hcs 2 (.int .i64 y2) rfl
        have k3 : wr.cell? ⟨b, off + k * 9 + 3, none⟩ = some (.int .i64 y3) := by simpa using hcs 3 (.int .i64 y3) rfl
        have k4 : wr.cell? ⟨b, off + k * 9 + 4, none⟩ = some (.string y4) := by simpa using hcs 4 (.string y4) rfl
        have k5 : wr.cell? ⟨b, off + k * 9 + 5, none⟩ = some (.int .i64 y5) := by simpa using hcs 5 (.int .i64 y5) rfl
        have k6 : wr.cell? ⟨b, off + k * 9 + 6, none⟩ = some (.slice ca cyc.length cc) := by simpa using hcs 6 (.slice ca cyc.length cc) rfl
        have k7 : wr.cell? ⟨b, off + k * 9 + 7, none⟩ = some (.bool y7) := by simpa using hcs 7 (.bool y7) rfl
        have k8 : wr.cell? ⟨b, off + k * 9 + 8, none⟩ = some (.int .i64 y8) := by simpa using hcs 8 (.int .i64 y8) rfl
        clear hcs hlen
        obtain ⟨W2, hW2⟩ : ∃ W2, wr.alloc (.cells #[.int .i64 y0, .int .i64 y1, .int .i64 y2, .int .i64 y3, .string y4, .int .i64 y5, .slice ca cyc.length cc, .bool y7, .int .i64 y8] 46) = W2 := ⟨_, rfl⟩
        obtain ⟨oy, hoy⟩ : ∃ oy, wr.heap.size = oy := ⟨_, rfl⟩
        have B2 := below_box wr (.cells #[.int .i64 y0, .int .i64 y1, .int .i64 y2, .int .i64 y3, .string y4, .int .i64 y5, .slice ca cyc.length cc, .bool y7, .int .i64 y8] 46)
        rw [hW2] at B2
        have XY : BoxW W2 oy 46 #[.int .i64 y0, .int .i64 y1, .int .i64 y2, .int .i64 y3, .string y4, .int .i64 y5, .slice ca cyc.length cc, .bool y7, .int .i64 y8] := by rw [← hW2, ← hoy]; exact box_new _ _ _
        have n0 : W2.cell? ⟨oy, 0, none⟩ = some (.int .i64 y0) := XY.cell 0
        have n1 : W2.cell? ⟨oy, 1, none⟩ = some (.int .i64 y1) := XY.cell 1
        have n2 : W2.cell? ⟨oy, 2, none⟩ = some (.int .i64 y2) := XY.cell 2
        have n3 : W2.cell? ⟨oy, 3, none⟩ = some (.int .i64 y3) := XY.cell 3
        have n4 : W2.cell? ⟨oy, 4, none⟩ = some (.string y4) := XY.cell 4
        have n5 : W2.cell? ⟨oy, 5, none⟩ = some (.int .i64 y5) := XY.cell 5
        have n6 : W2.cell? ⟨oy, 6, none⟩ = some (.slice ca cyc.length cc) := XY.cell 6
        have n7 : W2.cell? ⟨oy, 7, none⟩ = some (.bool y7) := XY.cell 7
        have n8 : W2.cell? ⟨oy, 8, none⟩ = some (.int .i64 y8) := XY.cell 8
        have BB := hid (BX.out.trans (B2.mono BX.out.size))
        have MY := hid (dmay_is y0 y1 y2 y3 y4 y5 ca cyc cc y7 y8 W2 (RowsIn.keep hcyc (by omega) (fun _ _ h => h) (keeps_below B2) (fun _ _ h => h)) hsa)
        clear B2 XY hcyc hsa
        cases hwa : wrongA (y0, y1, y2, y3, y4, y5, cyc, y7, y8) with
        | true =>
          rw [hwa] at MY
          have EA : Hid (al.any wrongA = true) := any_at hlt (by rw [HX.out]; exact hwa)
          clear hwa
          go_wp2_with fail
          go_at_call 27
          refine MY.out.mono ?_
          rintro en w3 ⟨rfl, b3⟩
          have B3 := hid b3
          clear b3
          go_wp2_with fail
          go_ret
          exact ⟨by rw [HR.out, EA.out]; rfl, BW1.out.trans ((BB.out.trans (B3.out.mono BB.out.size)).mono BW1.out.size)⟩
        | false =>
          rw [hwa] at MY
          have EX : Hid (∀ j, j < k + 1 → wrongA (al.getD j default) = false) := fun j hj => by
            by_cases e : j = k
            · subst e
              rw [HX.out]; exact hwa
            · exact NX.out j (by omega)
          clear hwa NX
          go_wp2_with fail
          go_at_call 27
          refine MY.out.mono ?_
          rintro en w3 ⟨rfl, b3⟩
          have B3 := hid b3
          clear b3
          go_wp2_with fail
          go_roundg (al.length - (k + 1))
          case measure => omega
          case rel => exact ⟨k + 1, by omega, by omega, by go_num, EX.out, BB.out.trans (B3.out.mono BB.out.size)⟩
      · have hlti : ¬ (k : Int) < al.length := by omega
        have EA : Hid (al.any wrongA = false) := any_none (fun j hj => NX.out j (by omega))
        clear NX
        go_wp2_with fail
        go_ret
        exact ⟨by rw [HR.out, EA.out]; rfl, BWR.out⟩
  have h9b : (x == 1) = false := by simpa using h9
  have h9c : (x != 1) = true := by simpa using h9
  by_cases h10 : (0 : Int) < (os.length : Int)
  · have h9e : ((os.length : Int) == 0) = false := by simpa using (by omega : ¬ (os.length : Int) = 0)
    have HT : Hid (canR (t, u, al, e, x, os) = false) := by show _ = _; rw [HW.out, h9e, h9b]; simp
    clear hgo h9e
    clear HW HC HSM
    go_enter Tryd.func7, Tryd.ntmps7
    go_wp2_with fail
    go_ret
    exact ⟨by rw [HT.out]; rfl, by first | exact BW1.out | (rw [← ho]; exact BW1.out)⟩
  have HR := hgo (.inr ⟨h9, h10⟩)
  clear HW hgo
  go_enter Tryd.func7, Tryd.ntmps7
  go_wp2_with fail
  clear hW ho c0 c2 c3 c4 c5
  go_loopg [59] al.length (fun gg i wr => ∃ k : Nat, k ≤ al.length ∧ al.length - k ≤ gg ∧ i = .int .i64 k ∧ Aside (∀ j, j < k → wrongA (al.getD j default) = false) ∧ Aside (Below W.heap.size W wr))
  case atStart => exact ⟨0, Nat.zero_le _, by omega, rfl, fun j hj => by omega, Below.refl _ _⟩
  case round =>
    obtain ⟨k, hk, hg, rfl, NX, BX⟩ := hrel
    have BWR : Hid (Below w.heap.size w wr) := BW1.out.trans (BX.out.mono BW1.out.size)
    by_cases hlt : k < al.length
    · have hlti : (k : Int) < al.length := by omega
      have hk0 : (0 : Int) ≤ k := by omega
      have HR2 := RowsIn.keep HC.out (by omega) (R' := AnS S wr) (fun _ _ h => anS_keep _ _ _ _ _ _ h (keeps_below BWR.out) (fun _ _ h => h)) (keeps_below BWR.out) (fun _ _ h => h)
      obtain ⟨ao2, c2, e2, _, hrc⟩ := Tx.RowsIn.cells HR2 (by omega)
      obtain ⟨b, off, cs, hab, hbl, hlen, hrow, hcs⟩ := hrc k hlt
      simp only [Value.slice.injEq, true_and] at e2
      obtain ⟨e2, e3⟩ := e2
      subst hab
      subst e2
      subst e3
      obtain ⟨⟨y0, y1, y2, y3, y4, y5, cyc, y7, y8⟩, hx⟩ : ∃ x, al.getD k default = x := ⟨_, rfl⟩
      rw [hx] at hrow
      obtain ⟨cv, hcv, hcyc⟩ := hrow
      obtain ⟨ca, cc, rfl, _⟩ := id hcyc
      have hrow : cs = encA (y0, y1, y2, y3, y4, y5, cyc, y7, y8) (.slice ca cyc.length cc) := hcv
      replace hcyc : WhysS S wr (.slice ca cyc.length cc) cyc := hcyc
      clear hcv
      subst hrow
      have HX := hid hx
      have hsa := HSM.out (al.getD k default) (by rw [List.getD, List.getElem?_eq_getElem hlt]; exact List.getElem_mem _)
      rw [hx] at hsa
      clear hx HR2 hrc
      have k0 : wr.cell? ⟨b, off + k * 9, none⟩ = some (.int .i64 y0) := by simpa using hcs 0 (.int .i64 y0) rfl
      have k1 : wr.cell? ⟨b, off + k * 9 + 1, none⟩ = some (.int .i64 y1) := by simpa using hcs 1 (.int .i64 y1) rfl
      have k2 : wr.cell? ⟨b, off + k * 9 + 2, none⟩ = some (.int .i64 y2) := by simpa using hcs 2 (.int .i64 y2) rfl
      have k3 : wr.cell? ⟨b, off + k * 9 + 3, none⟩ = some (.int .i64 y3) := by simpa using hcs 3 (.int .i64 y3) rfl
      have k4 : wr.cell? ⟨b, off + k * 9 + 4, none⟩ = some (.string y4) := by simpa using hcs 4 (.string y4) rfl
      have k5 : wr.cell? ⟨b, off + k * 9 + 5, none⟩ = some (.int .i64 y5) := by simpa using hcs 5 (.int .i64 y5) rfl
      have k6 : wr.cell? ⟨b, off + k * 9 + 6, none⟩ = some (.slice ca cyc.length cc) := by simpa using hcs 6 (.slice ca cyc.length cc) rfl
      have k7 : wr.cell? ⟨b, off + k * 9 + 7, none⟩ = some (.bool y7) := by simpa using hcs 7 (.bool y7) rfl
      have k8 : wr.cell? ⟨b, off + k * 9 + 8, none⟩ = some (.int .i64 y8) := by simpa using hcs 8 (.int .i64 y8) rfl
      clear hcs hlen
      obtain ⟨W2, hW2⟩ : ∃ W2, wr.alloc (.cells #[.int .i64 y0, .int .i64 y1, .int .i64 y2, .int .i64 y3, .string y4, .int .i64 y5, .slice ca cyc.length cc, .bool y7, .int .i64 y8] 46) = W2 := ⟨_, rfl⟩
      obtain ⟨oy, hoy⟩ : ∃ oy, wr.heap.size = oy := ⟨_, rfl⟩
      have B2 := below_box wr (.cells #[.int .i64 y0, .int .i64 y1, .int .i64 y2, .int .i64 y3, .string y4, .int .i64 y5, .slice ca cyc.length cc, .bool y7, .int .i64 y8] 46)
      rw [hW2] at B2
      have XY : BoxW W2 oy 46 #[.int .i64 y0, .int .i64 y1, .int .i64 y2, .int .i64 y3, .string y4, .int .i64 y5, .slice ca cyc.length cc, .bool y7, .int .i64 y8] := by rw [← hW2, ← hoy]; exact box_new _ _ _
      have n0 : W2.cell? ⟨oy, 0, none⟩ = some (.int .i64 y0) := XY.cell 0
      have n1 : W2.cell? ⟨oy, 1, none⟩ = some (.int .i64 y1) := XY.cell 1
      have n2 : W2.cell? ⟨oy, 2, none⟩ = some (.int .i64 y2) := XY.cell 2
      have n3 : W2.cell? ⟨oy, 3, none⟩ = some (.int .i64 y3) := XY.cell 3
      have n4 : W2.cell? ⟨oy, 4, none⟩ = some (.string y4) := XY.cell 4
      have n5 : W2.cell? ⟨oy, 5, none⟩ = some (.int .i64 y5) := XY.cell 5
      have n6 : W2.cell? ⟨oy, 6, none⟩ = some (.slice ca cyc.length cc) := XY.cell 6
      have n7 : W2.cell? ⟨oy, 7, none⟩ = some (.bool y7) := XY.cell 7
      have n8 : W2.cell? ⟨oy, 8, none⟩ = some (.int .i64 y8) := XY.cell 8
      have BB := hid (BX.out.trans (B2.mono BX.out.size))
      have MY := hid (dmay_is y0 y1 y2 y3 y4 y5 ca cyc cc y7 y8 W2 (RowsIn.keep hcyc (by omega) (fun _ _ h => h) (keeps_below B2) (fun _ _ h => h)) hsa)
      clear B2 XY hcyc hsa
      cases hwa : wrongA (y0, y1, y2, y3, y4, y5, cyc, y7, y8) with
      | true =>
        rw [hwa] at MY
        have EA : Hid (al.any wrongA = true) := any_at hlt (by rw [HX.out]; exact hwa)
        clear hwa
        go_wp2_with fail
        go_at_call 27
        refine MY.out.mono ?_
        rintro en w3 ⟨rfl, b3⟩
        have B3 := hid b3
        clear b3
        go_wp2_with fail
        go_ret
        exact ⟨by rw [HR.out, EA.out]; rfl, BW1.out.trans ((BB.out.trans (B3.out.mono BB.out.size)).mono BW1.out.size)⟩
      | false =>
        rw [hwa] at MY
        have EX : Hid (∀ j, j < k + 1 → wrongA (al.getD j default) = false) := fun j hj => by
          by_cases e : j = k
          · subst e
            rw [HX.out]; exact hwa
          · exact NX.out j (by omega)
        clear hwa NX
        go_wp2_with fail
        go_at_call 27
        refine MY.out.mono ?_
        rintro en w3 ⟨rfl, b3⟩
        have B3 := hid b3
        clear b3
        go_wp2_with fail
        go_roundg (al.length - (k + 1))
        case measure => omega
        case rel => exact ⟨k + 1, by omega, by omega, by go_num, EX.out, BB.out.trans (B3.out.mono BB.out.size)⟩
    · have hlti : ¬ (k : Int) < al.length := by omega
      have EA : Hid (al.any wrongA = false) := any_none (fun j hj => NX.out j (by omega))
      clear NX
      go_wp2_with fail
      go_ret
      exact ⟨by rw [HR.out, EA.out]; rfl, BWR.out⟩
end Go.Proofs.YtkpomcimaofkkaaDoor.Rp
namespace Go.Proofs.YtkpomcimaofkkaaDoor.Rp
set_option linter.unusedVariables false
set_option linter.unusedSimpArgs false
open Go.RowKit Go.Lib

theorem RepV.inAll {S : Nat → Prop} {w : World} {v : Value} {r : MR} (h : RepV S w v r) : RepIn w v r := by
  obtain ⟨aa, ac, oa, oc, rfl, h1, h2⟩ := h
  refine ⟨_, _, rfl, RowsIn.keep h1 (by omega) (fun cs x q => ?_) (fun b _ _ => rfl) (fun _ _ _ => trivial), h2.keep (fun b _ _ => rfl) (fun _ _ _ => trivial)⟩
  obtain ⟨cv, q1, q2⟩ := q
  exact ⟨cv, q1, RowsIn.keep q2 (by omega) (fun _ _ h => h) (fun b _ _ => rfl) (fun _ _ _ => trivial)⟩
theorem ansIn_later {w w' : World} {v : Value} {l : List MA} (h : AnsIn w v l) (hb : Below w.heap.size w w') : AnsIn w' v l := by
  refine rows_later h (by omega) hb (fun cs a q => ?_)
  obtain ⟨cv, q1, q2⟩ := q
  exact ⟨cv, q1, rows_later q2 (by omega) hb (fun _ _ h => h)⟩
end Go.Proofs.YtkpomcimaofkkaaDoor.Rp
namespace Go.Proofs.YtkpomcimaofkkaaDoor.Rp
set_option linter.unusedVariables false
set_option linter.unusedSimpArgs false
open Go.RowKit Go.Lib

theorem SS.line {B b : Nat} {w wr : World} {bs : Bs} {B' : Nat} {v : Value} {ps : List ByteArray} (hs : SS B' wr v ps) (h : Wr B b w wr bs) (h0 : 0 < ps.length) (hn : ps.length ≤ 140737488355328) (hl : bs.length + (lineB ps).length ≤ 140737488355328) :
    Calls Tryd.prog 8 #[v, .pointer (some ⟨b, 0, none⟩)] wr fun e W => e = .returned (.tuple #[]) ∧ Wr B b w W (bs ++ lineB ps) := by
  obtain ⟨g, cap, rfl, h1, _, h3, h4⟩ := hs.cells h0
  exact pqline_is g cap ps h h4 h3 h1 hn hl
theorem two_line {B b : Nat} {w wr : World} {bs : Bs} (x y : ByteArray) (h : Wr B b w wr bs) (hl : bs.length + (lineB [x, y]).length ≤ 140737488355328) :
    Calls Tryd.prog 8 #[.slice (some ⟨wr.heap.size, 0, none⟩) 2 2, .pointer (some ⟨b, 0, none⟩)] (wr.alloc (.cells #[.string x, .string y] 9)) fun e W => e = .returned (.tuple #[]) ∧ Wr B b w W (bs ++ lineB [x, y]) := by
  have h2 := h.later (below_box wr (.cells #[.string x, .string y] 9))
  refine SS.line (B' := wr.heap.size) (ps := [x, y]) ?_ h2 (by simp) (by simp) hl
  exact SS.made (l := [x, y]) (heap_alloc_new wr _) (Nat.le_refl _) (by simp)
set_option maxHeartbeats 16000000 in
set_option maxRecDepth 100000 in
theorem print_is {S : Nat → Prop} (t : Int) (u : Bool) (aa : Option Addr) (al : List MA) (ac : Nat) (e x : Int) (oa : Option Addr) (os : List Int) (oc : Nat) (w : World) (hal : AnsS S w (.slice aa al.length ac) al) (hos : IntsIn S w (.slice oa os.length oc) os) (hr : canR (t, u, al, e, x, os) = true) (hR : RngR (t, u, al, e, x, os)) (hT : Pow w.heap.size w) (hN : NamesAt w) :
    Calls Tryd.prog 4 #[.agg #[.int .i64 t, .bool u, .slice aa al.length ac, .int .i64 e, .int .i64 x, .slice oa os.length oc]] w fun en w' => (∃ s : ByteArray, en = .returned (.tuple #[.string s, .int .i64 0]) ∧ s.data.toList = printB (t, u, al, e, x, os)) ∧ Below w.heap.size w w' := by
  have hmf : ∀ (fn : Fn) (first cap : Array Value) (w : World), (Instr.makeFunc fn first cap).run Tryd.prog w = .ok (.func fn first cap) w := fun _ _ _ _ => rfl
  obtain ⟨r1, r2, r3, r4, r5⟩ := hR
  simp only at r1 r2 r3 r4 r5
  have BX := box_new w #[.int .i64 t, .bool u, .slice aa al.length ac, .int .i64 e, .int .i64 x, .slice oa os.length oc] 25
  have A1 := hid (below_box w (.cells #[.int .i64 t, .bool u, .slice aa al.length ac, .int .i64 e, .int .i64 x, .slice oa os.length oc] 25))
  obtain ⟨W, hW⟩ : ∃ W, w.alloc (.cells #[.int .i64 t, .bool u, .slice aa al.length ac, .int .i64 e, .int .i64 x, .slice oa os.length oc] 25) = W := ⟨_, rfl⟩
  obtain ⟨o, ho⟩ : ∃ o, w.heap.size = o := ⟨_, rfl⟩
  have BW1 : Hid (Below w.heap.size w W) := by rw [← hW]; exact A1.out
  rw [hW, ho] at BX
  have HBX := hid BX
  obtain ⟨c0, c1, c2, c3, c4, c5⟩ := BX.cells
  have HIN : Hid (AnsIn w (.slice aa al.length ac) al) := by
    have h : RepV S w (.agg (encR (t, u, al, e, x, os) (.slice aa al.length ac) (.slice oa os.length oc))) (t, u, al, e, x, os) := ⟨aa, ac, oa, oc, rfl, hal, hos⟩
    obtain ⟨av, ov, ee, h1, h2⟩ := h.inAll
    simp only [encR, Value.agg.injEq] at ee
    have e2 := congrArg (fun z => z[2]?) ee
    simp at e2
    rw [e2]
    exact h1
  have HOS : Hid (IntsIn All w (.slice oa os.length oc) os) := hos.keep (fun b _ _ => rfl) (fun _ _ _ => trivial)
  have CAN := hid (ccan_is t u aa al ac e x oa os oc W (hal.keep (T := S) (fun b _ hb => BW1.out.block b hb) (fun _ _ h => h)) (hN.later BW1.out))
  rw [hr] at CAN
  have PW : Hid (∀ V, Below w.heap.size w V → Pow V.heap.size V) := fun V hb => hT.later hb hb.size
  have NW : Hid (∀ V, Below w.heap.size w V → NamesAt V) := fun V hb => hN.later hb
  have R1 := hid r1
  have R3 := hid r3
  have R5 := hid r5
  have hali : (al.length : Int) ≤ 1000 := by omega
  clear BX A1 hal hos hr hT hN r1 r3 r5
  go_enter Tryd.func4, Tryd.ntmps4
  go_wp2_with fail
  go_at_call 6
  refine CAN.out.mono ?_
  rintro en w1 ⟨rfl, b1⟩
  have L1 := HBX.out.later b1
  have B1 : Hid (Below w.heap.size w w1) := BW1.out.trans (b1.mono BW1.out.size)
  obtain ⟨k0, k1, k2, k3, k4, k5⟩ := L1.cells
  have HL1 := hid L1
  have hob : Hid (o < w1.heap.size) := L1.lt
  have HOO := hid ho
  clear b1 L1 hW ho CAN c0 c1 c2 c3 c4 c5 k0 k1 k2 k3 k4 k5
  obtain ⟨b, hb⟩ : ∃ b, w1.heap.size = b := ⟨_, rfl⟩
  obtain ⟨w2, hw2⟩ : ∃ w2, w1.alloc (.cells #[.pointer none, .slice none 0 0] 33) = w2 := ⟨_, rfl⟩
  have FB := Lib.fresh_isBuilder 33 5 w1
  rw [hw2, hb] at FB
  have H2 : Hid (Wr b b w2 w2 []) := ⟨Lib.IsBuilderF.of FB, Below.refl _ _, Lib.OthersKept.refl _ _ _⟩
  have Z2 : Hid (BoxW w2 o 25 #[.int .i64 t, .bool u, .slice aa al.length ac, .int .i64 e, .int .i64 x, .slice oa os.length oc]) := by rw [← hw2]; exact HL1.out.later (below_box _ _)
  have B2 : Hid (Below w.heap.size w w2) := by rw [← hw2]; exact B1.out.trans ((below_box w1 _).mono B1.out.size)
  have hob2 : Hid (o < b) := by rw [← hb]; exact hob.out
  have hwb : Hid (w.heap.size ≤ b) := by rw [← hb]; exact B1.out.size
  have BB : Hid (∀ V, Below b w2 V → Below w.heap.size w V) := fun V hV => B2.out.trans (hV.mono hwb.out)
  have ZZ : Hid (∀ V, Below b w2 V → BoxW V o 25 #[.int .i64 t, .bool u, .slice aa al.length ac, .int .i64 e, .int .i64 x, .slice oa os.length oc]) := fun V hV => Z2.out.be hV hob2.out
  have HB := hid hb
  have n0 : w2.cell? ⟨o, 0, none⟩ = some (.int .i64 t) := Z2.out.cell 0
  clear FB HL1 hob
  go_wp2_with fail
  go_at_call 12
  clear hw2 hb n0
  refine (itoa_is t R1.out w2 (PW.out _ B2.out)).mono ?_
  rintro en w3 ⟨rfl, b3⟩
  have H3 := hid (H2.out.later b3)
  clear b3 H2
  go_wp2_with fail
  go_at_call 8
  have T1 : Hid ((lineB [wTxns, decB t]).length ≤ 4000000) := two_len (by decide) (by have := decB_size R1.out; omega)
  refine (two_line wTxns (decB t) H3.out (by have := T1.out; simp only [List.length_nil]; omega)).mono ?_
  rintro en w4 ⟨rfl, h4⟩
  rw [List.nil_append] at h4
  have H4 := hid h4
  have m1 : w4.cell? ⟨o, 1, none⟩ = some (.bool u) := (ZZ.out w4 h4.be).cell 1
  clear h4 H3
  go_wp2_with fail
  go_at_call 13
  refine (pqei_is u wYes wNo w4).mono ?_
  rintro en w5 ⟨rfl, b5⟩
  have H5 := hid (H4.out.later b5)
  clear b5 H4 m1
  go_wp2_with fail
  go_at_call 8
  have T2 : Hid ((lineB [wUnique, eiB u wYes wNo]).length ≤ 4000000) := two_len (by decide) (by have := eiB_size u (y := wYes) (n := wNo) (by decide) (by decide); omega)
  refine (two_line wUnique (eiB u wYes wNo) H5.out (by have := T1.out; have := T2.out; omega)).mono ?_
  rintro en w6 ⟨rfl, h6⟩
  have H6 := hid h6
  have m2 : w6.cell? ⟨o, 2, none⟩ = some (.slice aa al.length ac) := (ZZ.out w6 h6.be).cell 2
  clear h6 H5
  obtain ⟨bs0, hbs0⟩ : ∃ bs0, lineB [wTxns, decB t] ++ lineB [wUnique, eiB u wYes wNo] = bs0 := ⟨_, rfl⟩
  rw [hbs0] at H6
  have T3 : Hid (bs0.length ≤ 8000000) := by
    show _ ≤ _
    rw [← hbs0, List.length_append]
    have := T1.out
    have := T2.out
    omega
  have HBS := hid hbs0
  clear hbs0 T1 T2
  go_wp2_with fail
  go_loopg [7, 27] al.length (fun gg _ i wr => ∃ k : Nat, k ≤ al.length ∧ al.length - k ≤ gg ∧ i = .int .i64 k ∧ Aside (Wr b b w2 wr (bs0 ++ (al.take k).flatMap (fun a => lineB (aParts a)))))
  case atStart => exact ⟨0, Nat.zero_le _, by omega, rfl, by show Wr _ _ _ _ _; simpa using H6.out⟩
  case round =>
    clear H6 m2
    obtain ⟨k, hk, hg, rfl, WR⟩ := hrel
    by_cases hlt : k < al.length
    · have hlti : (k : Int) < al.length := by omega
      have hk0 : (0 : Int) ≤ k := by omega
      have BR : Hid (Below w.heap.size w wr) := BB.out wr WR.out.be
      have HAR := HIN.out.later BR.out
      obtain ⟨ao2, ac2, e2, _, hrc⟩ := Tx.RowsIn.cells HAR (by omega)
      obtain ⟨q, off, cs, hab, hbl, hlen, ⟨cv, hrow, hcy⟩, hcs⟩ := hrc k hlt
      simp only [Value.slice.injEq, true_and] at e2
      obtain ⟨e2, e3⟩ := e2
      subst hab
      subst e2
      subst e3
      have hRA := R3.out (al.getD k default) (by simp [List.getD, List.getElem?_eq_getElem hlt])
      obtain ⟨⟨x0, x1, x2, x3, x4, x5, cyc, x7, x8⟩, hx⟩ : ∃ x, al.getD k default = x := ⟨_, rfl⟩
      rw [hx] at hrow hRA hcy
      have HX := hid hx
      obtain ⟨ca, cc, rfl, _, _⟩ := id (Tx.RowsIn.cells hcy (by omega))
      simp only [MA.cyc] at hcy
      simp only [encA, MA.cyc] at hrow
      subst hrow
      have HCY := hid hcy
      have HRA := hid hRA
      clear hx HAR hrc hcy hRA
      have f0 : wr.cell? ⟨q, off + k * 9, none⟩ = some (.int .i64 x0) := by simpa using hcs 0 (.int .i64 x0) rfl
      have f1 : wr.cell? ⟨q, off + k * 9 + 1, none⟩ = some (.int .i64 x1) := by simpa using hcs 1 (.int .i64 x1) rfl
      have f2 : wr.cell? ⟨q, off + k * 9 + 2, none⟩ = some (.int .i64 x2) := by simpa using hcs 2 (.int .i64 x2) rfl
      have f3 : wr.cell? ⟨q, off + k * 9 + 3, none⟩ = some (.int .i64 x3) := by simpa using hcs 3 (.int .i64 x3) rfl
      have f4 : wr.cell? ⟨q, off + k * 9 + 4, none⟩ = some (.string x4) := by simpa using hcs 4 (.string x4) rfl
      have f5 : wr.cell? ⟨q, off + k * 9 + 5, none⟩ = some (.int .i64 x5) := by simpa using hcs 5 (.int .i64 x5) rfl
      have f6 : wr.cell? ⟨q, off + k * 9 + 6, none⟩ = some (.slice ca cyc.length cc) := by simpa using hcs 6 (.slice ca cyc.length cc) rfl
      have f7 : wr.cell? ⟨q, off + k * 9 + 7, none⟩ = some (.bool x7) := by simpa using hcs 7 (.bool x7) rfl
      have f8 : wr.cell? ⟨q, off + k * 9 + 8, none⟩ = some (.int .i64 x8) := by simpa using hcs 8 (.int .i64 x8) rfl
      clear hcs hlen
      obtain ⟨U, hU⟩ : ∃ U, wr.alloc (.cells #[.int .i64 x0, .int .i64 x1, .int .i64 x2, .int .i64 x3, .string x4, .int .i64 x5, .slice ca cyc.length cc, .bool x7, .int .i64 x8] 46) = U := ⟨_, rfl⟩
      have BU : Hid (Below wr.heap.size wr U) := by rw [← hU]; exact below_box wr _
      have BXU : Hid (BoxW U wr.heap.size 46 #[.int .i64 x0, .int .i64 x1, .int .i64 x2, .int .i64 x3, .string x4, .int .i64 x5, .slice ca cyc.length cc, .bool x7, .int .i64 x8]) := by rw [← hU]; exact box_new wr _ _
      have BWU : Hid (Below w.heap.size w U) := BR.out.trans (BU.out.mono BR.out.size)
      have g0 : U.cell? ⟨wr.heap.size, 0, none⟩ = some (.int .i64 x0) := BXU.out.cell 0
      have g1 : U.cell? ⟨wr.heap.size, 1, none⟩ = some (.int .i64 x1) := BXU.out.cell 1
      have g2 : U.cell? ⟨wr.heap.size, 2, none⟩ = some (.int .i64 x2) := BXU.out.cell 2
      have g3 : U.cell? ⟨wr.heap.size, 3, none⟩ = some (.int .i64 x3) := BXU.out.cell 3
      have g4 : U.cell? ⟨wr.heap.size, 4, none⟩ = some (.string x4) := BXU.out.cell 4
      have g5 : U.cell? ⟨wr.heap.size, 5, none⟩ = some (.int .i64 x5) := BXU.out.cell 5
      have g6 : U.cell? ⟨wr.heap.size, 6, none⟩ = some (.slice ca cyc.length cc) := BXU.out.cell 6
      have g7 : U.cell? ⟨wr.heap.size, 7, none⟩ = some (.bool x7) := BXU.out.cell 7
      have g8 : U.cell? ⟨wr.heap.size, 8, none⟩ = some (.int .i64 x8) := BXU.out.cell 8
      have HWU := hid (WR.out.later BU.out)
      have AP := hid (aparts_is x0 x1 x2 x3 x4 x5 ca cc cyc x7 x8 U (HCY.out.later BU.out) HRA.out (PW.out U BWU.out) (NW.out U BWU.out))
      clear BXU HCY
      go_wp2_with fail
      go_at_call 14
      clear hU g0 g1 g2 g3 g4 g5 g6 g7 g8 f0 f1 f2 f3 f4 f5 f6 f7 f8
      refine AP.out.mono ?_
      rintro en w7 ⟨v7, rfl, s7, b7⟩
      have H7 := hid (HWU.out.later b7)
      have S7 := hid s7
      clear s7 b7 HWU AP
      go_wp2_with fail
      go_at_call 8
      refine (SS.line S7.out H7.out (by unfold aParts aHead; simp) (by have := (aParts_size HRA.out).2; omega) (by
        have h1 := aLine_len HRA.out
        have h2 := lines_len R3.out (by omega) k
        have h3 := T3.out
        rw [List.length_append]
        omega)).mono ?_
      rintro en w8 ⟨rfl, h8⟩
      have H8 := hid h8
      clear h8 H7 S7
      go_wp2_with fail
      go_roundg (al.length - (k + 1))
      case measure => omega
      case rel =>
        refine ⟨k + 1, by omega, by omega, by go_num, ?_⟩
        show Wr _ _ _ _ _
        rw [lines_take hlt HX.out, ← List.append_assoc]
        exact H8.out
    · obtain rfl : k = al.length := by omega
      have hWR := WR.out
      rw [List.take_of_length_le (Nat.le_refl _)] at hWR
      have T4 := lines_len R3.out (by omega) al.length
      rw [List.take_of_length_le (Nat.le_refl _)] at T4
      obtain ⟨bs1, hbs1⟩ : ∃ bs1, bs0 ++ al.flatMap (fun a => lineB (aParts a)) = bs1 := ⟨_, rfl⟩
      rw [hbs1] at hWR
      have T5 : Hid (bs1.length ≤ 4008000000) := by
        show _ ≤ _
        rw [← hbs1, List.length_append]
        have := T3.out
        omega
      have HBS1 := hid hbs1
      have H9 := hid hWR
      have m3 : wr.cell? ⟨o, 3, none⟩ = some (.int .i64 e) := (ZZ.out wr hWR.be).cell 3
      have NV := hid (lvName_is e wr (NW.out wr (BB.out wr hWR.be)))
      clear hWR T4 hbs1 WR
      go_wp2_with fail
      go_at_call 15
      refine NV.out.mono ?_
      rintro en w9 ⟨rfl, rfl⟩
      clear NV m3
      go_wp2_with fail
      go_at_call 8
      have T6 : Hid ((lineB [wLevel, nameN e]).length ≤ 4000000) := two_len (by decide) (by have := nameN_size e; omega)
      refine (two_line wLevel (nameN e) H9.out (by have := T5.out; have := T6.out; omega)).mono ?_
      rintro en w10 ⟨rfl, h10⟩
      have H10 := hid h10
      obtain ⟨n0, n1, n2, n3, n4, n5⟩ := (ZZ.out w10 h10.be).cells
      have BV10 : Hid (Below w.heap.size w w10) := BB.out w10 h10.be
      clear h10 H9
      go_wp2_with fail
      go_at_call 16
      refine (ansp_is t u aa al.length ac e x oa os oc w10 (HOS.out.keep (T := All) (fun b _ hbl => BV10.out.block b hbl) (fun _ _ _ => trivial)) (by omega) R5.out (PW.out _ BV10.out)).mono ?_
      rintro en w11 ⟨v11, rfl, s11, b11⟩
      have H11 := hid (H10.out.later b11)
      have S11 := hid s11
      clear s11 b11 n0 n1 n2 n3 n4 n5
      go_wp2_with fail
      go_at_call 8
      have T7 := hid (ansLine_len (x := x) r4 R5.out)
      refine (SS.line S11.out H11.out (by unfold ansParts; simp) (by have := (ansParts_size (x := x) r4 R5.out).2; omega) (by
        have h1 := T5.out
        have h2 := T6.out
        have h3 := T7.out
        rw [List.length_append]
        omega)).mono ?_
      rintro en w12 ⟨rfl, h12⟩
      have H12 := hid h12
      clear h12 H11 S11
      go_wp2_with fail
      go_at_call 17
      refine (Tryd.Builder_String_any_k b b _ w12 H12.out.bu H12.out.low).mono ?_
      rintro en w13 ⟨rfl, q1, q2, q3⟩
      have B13 : Hid (Below w.heap.size w w13) := BB.out w13 (H12.out.be.trans q2)
      clear q1 q2 q3
      go_wp2_with fail
      refine bodyPost_ret (results_tmp2 rfl _ _ _) rfl ⟨⟨_, rfl, ?_⟩, B13.out⟩
      show (bs1 ++ (lineB [wLevel, nameN e] ++ lineB (ansParts x os))) = _
      rw [← HBS1.out, ← HBS.out]
      simp only [printB, List.append_assoc]
set_option maxHeartbeats 2000000 in
set_option maxRecDepth 100000 in
/-- A report that may not be is not printed. -/
theorem print_not {S : Nat → Prop} (t : Int) (u : Bool) (aa : Option Addr) (al : List MA) (ac : Nat) (e x : Int) (oa : Option Addr) (os : List Int) (oc : Nat) (w : World) (hal : AnsS S w (.slice aa al.length ac) al) (hr : canR (t, u, al, e, x, os) = false) (hN : NamesAt w) :
    Calls Tryd.prog 4 #[.agg #[.int .i64 t, .bool u, .slice aa al.length ac, .int .i64 e, .int .i64 x, .slice oa os.length oc]] w fun en w' => en = .returned (.tuple #[.string ⟨#[]⟩, .int .i64 1]) ∧ Below w.heap.size w w' := by
  have BX := box_new w #[.int .i64 t, .bool u, .slice aa al.length ac, .int .i64 e, .int .i64 x, .slice oa os.length oc] 25
  have A1 := hid (below_box w (.cells #[.int .i64 t, .bool u, .slice aa al.length ac, .int .i64 e, .int .i64 x, .slice oa os.length oc] 25))
  obtain ⟨W, hW⟩ : ∃ W, w.alloc (.cells #[.int .i64 t, .bool u, .slice aa al.length ac, .int .i64 e, .int .i64 x, .slice oa os.length oc] 25) = W := ⟨_, rfl⟩
  obtain ⟨o, ho⟩ : ∃ o, w.heap.size = o := ⟨_, rfl⟩
  have BW1 : Hid (Below w.heap.size w W) := by rw [← hW]; exact A1.out
  rw [hW, ho] at BX
  obtain ⟨c0, c1, c2, c3, c4, c5⟩ := BX.cells
  have CAN := hid (ccan_is t u aa al ac e x oa os oc W (hal.keep (T := S) (fun b _ hb => BW1.out.block b hb) (fun _ _ h => h)) (hN.later BW1.out))
  rw [hr] at CAN
  clear BX A1 hal hr hN
  go_enter Tryd.func4, Tryd.ntmps4
  go_wp2_with fail
  go_at_call 6
  refine CAN.out.mono ?_
  rintro en w1 ⟨rfl, b1⟩
  have B1 : Hid (Below w.heap.size w w1) := BW1.out.trans (b1.mono BW1.out.size)
  clear b1 hW ho CAN c0 c1 c2 c3 c4 c5
  go_wp2_with fail
  refine bodyPost_ret (results_tmp2 rfl _ _ _) rfl ⟨rfl, B1.out⟩
end Go.Proofs.YtkpomcimaofkkaaDoor.Rp
