/-
  report.Print, the walk.
  ReportForm: what is printed of a report that was read has one form, which is read as it.
-/
import Derived.Test.YtkpomcimaofkkaaGreatDoorU20
import Derived.Test.YtkpomcimaofkkaaGreatDoorU32
import Derived.Test.YtkpomcimaofkkaaGreatDoorU30
namespace Go.Proofs.YtkpomcimaofkkaaGreatDoor.Rp
set_option linter.unusedVariables false
set_option linter.unusedSimpArgs false
open Go.RowKit Go.Lib

theorem SS.line {B b : Nat} {w wr : World} {bs : Bs} {B' : Nat} {v : Value} {ps : List ByteArray} (hs : SS B' wr v ps) (h : Wr B b w wr bs) (h0 : 0 < ps.length) (hn : ps.length ≤ 140737488355328) (hl : bs.length + (lineB ps).length ≤ 140737488355328) :
    Calls Tryz.prog 34 #[v, .pointer (some ⟨b, 0, none⟩)] wr fun e W => e = .returned (.tuple #[]) ∧ Wr B b w W (bs ++ lineB ps) := by
  obtain ⟨g, cap, rfl, h1, _, h3, h4⟩ := hs.cells h0
  exact pqline_is g cap ps h h4 h3 h1 hn hl
theorem two_line {B b : Nat} {w wr : World} {bs : Bs} (x y : ByteArray) (h : Wr B b w wr bs) (hl : bs.length + (lineB [x, y]).length ≤ 140737488355328) :
    Calls Tryz.prog 34 #[.slice (some ⟨wr.heap.size, 0, none⟩) 2 2, .pointer (some ⟨b, 0, none⟩)] (wr.alloc (.cells #[.string x, .string y] 9)) fun e W => e = .returned (.tuple #[]) ∧ Wr B b w W (bs ++ lineB [x, y]) := by
  have h2 := h.later (below_box wr (.cells #[.string x, .string y] 9))
  refine SS.line (B' := wr.heap.size) (ps := [x, y]) ?_ h2 (by simp) (by simp) hl
  exact SS.made (l := [x, y]) (heap_alloc_new wr _) (Nat.le_refl _) (by simp)
set_option maxHeartbeats 16000000 in
set_option maxRecDepth 100000 in
theorem print_is {S : Nat → Prop} (t : Int) (u : Bool) (aa : Option Addr) (al : List MA) (ac : Nat) (e x : Int) (oa : Option Addr) (os : List Int) (oc : Nat) (w : World) (hal : AnsS S w (.slice aa al.length ac) al) (hos : IntsIn S w (.slice oa os.length oc) os) (hr : canR (t, u, al, e, x, os) = true) (hR : RngR (t, u, al, e, x, os)) (hT : Pow w.heap.size w) (hN : NamesAt w) :
    Calls Tryz.prog 11 #[.agg #[.int .i64 t, .bool u, .slice aa al.length ac, .int .i64 e, .int .i64 x, .slice oa os.length oc]] w fun en w' => (∃ s : ByteArray, en = .returned (.tuple #[.string s, .int .i64 0]) ∧ s.data.toList = printB (t, u, al, e, x, os)) ∧ Below w.heap.size w w' := by
  have hmf : ∀ (fn : Fn) (first cap : Array Value) (w : World), (Instr.makeFunc fn first cap).run Tryz.prog w = .ok (.func fn first cap) w := fun _ _ _ _ => rfl
  obtain ⟨r1, r2, r3, r4, r5⟩ := hR
  simp only at r1 r2 r3 r4 r5
  have BX := box_new w #[.int .i64 t, .bool u, .slice aa al.length ac, .int .i64 e, .int .i64 x, .slice oa os.length oc] 25
  have A1 := hid (below_box w (.cells #[.int .i64 t, .bool u, .slice aa al.length ac, .int .i64 e, .int .i64 x, .slice oa os.length oc] 25))
  obtain ⟨W, hW⟩ : ∃ W, w.alloc (.cells #[.int .i64 t, .bool u, .slice aa al.length ac, .int .i64 e, .int .i64 x, .slice oa os.length oc] 25) = W := ⟨_, rfl⟩
  obtain ⟨o, ho⟩ : ∃ o, w.heap.size = o := ⟨_, rfl⟩
  have BW1 : Hid (Below w.heap.size w W) := by rw [← hW]; exact A1.out
  rw [hW, ho] at BX
  have HBX := hid BX
  obtain ⟨c0, c1, c2, c3, c4, c5⟩ := BX.cells
  have HIN : Hid (AnsIn w (.slice aa al.length ac) al) := by
    have h : RepV S w (.agg (encR (t, u, al, e, x, os) (.slice aa al.length ac) (.slice oa os.length oc))) (t, u, al, e, x, os) := ⟨aa, ac, oa, oc, rfl, hal, hos⟩
    obtain ⟨av, ov, ee, h1, h2⟩ := h.inAll
    simp only [encR, Value.agg.injEq] at ee
    have e2 := congrArg (fun z => z[2]?) ee
    simp at e2
    rw [e2]
    exact h1
  have HOS : Hid (IntsIn All w (.slice oa os.length oc) os) := hos.keep (fun b _ _ => rfl) (fun _ _ _ => trivial)
  have CAN := hid (ccan_is t u aa al ac e x oa os oc W (hal.keep (T := S) (fun b _ hb => BW1.out.block b hb) (fun _ _ h => h)) (hN.later BW1.out))
  rw [hr] at CAN
  have PW : Hid (∀ V, Below w.heap.size w V → Pow V.heap.size V) := fun V hb => hT.later hb hb.size
  have NW : Hid (∀ V, Below w.heap.size w V → NamesAt V) := fun V hb => hN.later hb
  have R1 := hid r1
  have R3 := hid r3
  have R5 := hid r5
  have hali : (al.length : Int) ≤ 1000 := by omega
  clear BX A1 hal hos hr hT hN r1 r3 r5
  go_enter Tryz.func11, Tryz.ntmps11
  go_wp2_with fail
  go_at_call 19
  refine CAN.out.mono ?_
  rintro en w1 ⟨rfl, b1⟩
  have L1 := HBX.out.later b1
  have B1 : Hid (Below w.heap.size w w1) := BW1.out.trans (b1.mono BW1.out.size)
  obtain ⟨k0, k1, k2, k3, k4, k5⟩ := L1.cells
  have HL1 := hid L1
  have hob : Hid (o < w1.heap.size) := L1.lt
  have HOO := hid ho
  clear b1 L1 hW ho CAN c0 c1 c2 c3 c4 c5 k0 k1 k2 k3 k4 k5
  obtain ⟨b, hb⟩ : ∃ b, w1.heap.size = b := ⟨_, rfl⟩
  obtain ⟨w2, hw2⟩ : ∃ w2, w1.alloc (.cells #[.pointer none, .slice none 0 0] 77) = w2 := ⟨_, rfl⟩
  have FB := Lib.fresh_isBuilder 77 5 w1
  rw [hw2, hb] at FB
  have H2 : Hid (Wr b b w2 w2 []) := ⟨Lib.IsBuilderF.of FB, Below.refl _ _, Lib.OthersKept.refl _ _ _⟩
  have Z2 : Hid (BoxW w2 o 25 #[.int .i64 t, .bool u, .slice aa al.length ac, .int .i64 e, .int .i64 x, .slice oa os.length oc]) := by rw [← hw2]; exact HL1.out.later (below_box _ _)
  have B2 : Hid (Below w.heap.size w w2) := by rw [← hw2]; exact B1.out.trans ((below_box w1 _).mono B1.out.size)
  have hob2 : Hid (o < b) := by rw [← hb]; exact hob.out
  have hwb : Hid (w.heap.size ≤ b) := by rw [← hb]; exact B1.out.size
  have BB : Hid (∀ V, Below b w2 V → Below w.heap.size w V) := fun V hV => B2.out.trans (hV.mono hwb.out)
  have ZZ : Hid (∀ V, Below b w2 V → BoxW V o 25 #[.int .i64 t, .bool u, .slice aa al.length ac, .int .i64 e, .int .i64 x, .slice oa os.length oc]) := fun V hV => Z2.out.be hV hob2.out
  have HB := hid hb
  have n0 : w2.cell? ⟨o, 0, none⟩ = some (.int .i64 t) := Z2.out.cell 0
  clear FB HL1 hob
  go_wp2_with fail
  go_at_call 38
  clear hw2 hb n0
  refine (itoa_is t R1.out w2 (PW.out _ B2.out)).mono ?_
  rintro en w3 ⟨rfl, b3⟩
  have H3 := hid (H2.out.later b3)
  clear b3 H2
  go_wp2_with fail
  go_at_call 34
  have T1 : Hid ((lineB [wTxns, decB t]).length ≤ 4000000) := two_len (by decide) (by have := decB_size R1.out; omega)
  refine (two_line wTxns (decB t) H3.out (by have := T1.out; simp only [List.length_nil]; omega)).mono ?_
  rintro en w4 ⟨rfl, h4⟩
  rw [List.nil_append] at h4
  have H4 := hid h4
  have m1 : w4.cell? ⟨o, 1, none⟩ = some (.bool u) := (ZZ.out w4 h4.be).cell 1
  clear h4 H3
  go_wp2_with fail
  go_at_call 39
  refine (pqei_is u wYes wNo w4).mono ?_
  rintro en w5 ⟨rfl, b5⟩
  have H5 := hid (H4.out.later b5)
  clear b5 H4 m1
  go_wp2_with fail
  go_at_call 34
  have T2 : Hid ((lineB [wUnique, eiB u wYes wNo]).length ≤ 4000000) := two_len (by decide) (by have := eiB_size u (y := wYes) (n := wNo) (by decide) (by decide); omega)
  refine (two_line wUnique (eiB u wYes wNo) H5.out (by have := T1.out; have := T2.out; omega)).mono ?_
  rintro en w6 ⟨rfl, h6⟩
  have H6 := hid h6
  have m2 : w6.cell? ⟨o, 2, none⟩ = some (.slice aa al.length ac) := (ZZ.out w6 h6.be).cell 2
  clear h6 H5
  obtain ⟨bs0, hbs0⟩ : ∃ bs0, lineB [wTxns, decB t] ++ lineB [wUnique, eiB u wYes wNo] = bs0 := ⟨_, rfl⟩
  rw [hbs0] at H6
  have T3 : Hid (bs0.length ≤ 8000000) := by
    show _ ≤ _
    rw [← hbs0, List.length_append]
    have := T1.out
    have := T2.out
    omega
  have HBS := hid hbs0
  clear hbs0 T1 T2
  go_wp2_with fail
  go_loopg [7, 27] al.length (fun gg _ i wr => ∃ k : Nat, k ≤ al.length ∧ al.length - k ≤ gg ∧ i = .int .i64 k ∧ Aside (Wr b b w2 wr (bs0 ++ (al.take k).flatMap (fun a => lineB (aParts a)))))
  case atStart => exact ⟨0, Nat.zero_le _, by omega, rfl, by show Wr _ _ _ _ _; simpa using H6.out⟩
  case round =>
    clear H6 m2
    obtain ⟨k, hk, hg, rfl, WR⟩ := hrel
    by_cases hlt : k < al.length
    · have hlti : (k : Int) < al.length := by omega
      have hk0 : (0 : Int) ≤ k := by omega
      have BR : Hid (Below w.heap.size w wr) := BB.out wr WR.out.be
      have HAR := HIN.out.later BR.out
      obtain ⟨ao2, ac2, e2, _, hrc⟩ := Tx.RowsIn.cells HAR (by omega)
      obtain ⟨q, off, cs, hab, hbl, hlen, ⟨cv, hrow, hcy⟩, hcs⟩ := hrc k hlt
      simp only [Value.slice.injEq, true_and] at e2
      obtain ⟨e2, e3⟩ := e2
      subst hab
      subst e2
      subst e3
      have hRA := R3.out (al.getD k default) (by simp [List.getD, List.getElem?_eq_getElem hlt])
      obtain ⟨⟨x0, x1, x2, x3, x4, x5, cyc, x7, x8⟩, hx⟩ : ∃ x, al.getD k default = x := ⟨_, rfl⟩
      rw [hx] at hrow hRA hcy
      have HX := hid hx
      obtain ⟨ca, cc, rfl, _, _⟩ := id (Tx.RowsIn.cells hcy (by omega))
      simp only [MA.cyc] at hcy
      simp only [encA, MA.cyc] at hrow
      subst hrow
      have HCY := hid hcy
      have HRA := hid hRA
      clear hx HAR hrc hcy hRA
      have f0 : wr.cell? ⟨q, off + k * 9, none⟩ = some (.int .i64 x0) := by simpa using hcs 0 (.int .i64 x0) rfl
      have f1 : wr.cell? ⟨q, off + k * 9 + 1, none⟩ = some (.int .i64 x1) := by simpa using hcs 1 (.int .i64 x1) rfl
      have f2 : wr.cell? ⟨q, off + k * 9 + 2, none⟩ = some (.int .i64 x2) := by simpa using hcs 2 (.int .i64 x2) rfl
      have f3 : wr.cell? ⟨q, off + k * 9 + 3, none⟩ = some (.int .i64 x3) := by simpa using hcs 3 (.int .i64 x3) rfl
      have f4 : wr.cell? ⟨q, off + k * 9 + 4, none⟩ = some (.string x4) := by simpa using hcs 4 (.string x4) rfl
      have f5 : wr.cell? ⟨q, off + k * 9 + 5, none⟩ = some (.int .i64 x5) := by simpa using hcs 5 (.int .i64 x5) rfl
      have f6 : wr.cell? ⟨q, off + k * 9 + 6, none⟩ = some (.slice ca cyc.length cc) := by simpa using hcs 6 (.slice ca cyc.length cc) rfl
      have f7 : wr.cell? ⟨q, off + k * 9 + 7, none⟩ = some (.bool x7) := by simpa using hcs 7 (.bool x7) rfl
      have f8 : wr.cell? ⟨q, off + k * 9 + 8, none⟩ = some (.int .i64 x8) := by simpa using hcs 8 (.int .i64 x8) rfl
      clear hcs hlen
      obtain ⟨U, hU⟩ : ∃ U, wr.alloc (.cells #[.int .i64 x0, .int .i64 x1, .int .i64 x2, .int .i64 x3, .string x4, .int .i64 x5, .slice ca cyc.length cc, .bool x7, .int .i64 x8] 68) = U := ⟨_, rfl⟩
      have BU : Hid (Below wr.heap.size wr U) := by rw [← hU]; exact below_box wr _
      have BXU : Hid (BoxW U wr.heap.size 68 #[.int .i64 x0, .int .i64 x1, .int .i64 x2, .int .i64 x3, .string x4, .int .i64 x5, .slice ca cyc.length cc, .bool x7, .int .i64 x8]) := by rw [← hU]; exact box_new wr _ _
      have BWU : Hid (Below w.heap.size w U) := BR.out.trans (BU.out.mono BR.out.size)
      have g0 : U.cell? ⟨wr.heap.size, 0, none⟩ = some (.int .i64 x0) := BXU.out.cell 0
      have g1 : U.cell? ⟨wr.heap.size, 1, none⟩ = some (.int .i64 x1) := BXU.out.cell 1
      have g2 : U.cell? ⟨wr.heap.size, 2, none⟩ = some (.int .i64 x2) := BXU.out.cell 2
      have g3 : U.cell? ⟨wr.heap.size, 3, none⟩ = some (.int .i64 x3) := BXU.out.cell 3
      have g4 : U.cell? ⟨wr.heap.size, 4, none⟩ = some (.string x4) := BXU.out.cell 4
      have g5 : U.cell? ⟨wr.heap.size, 5, none⟩ = some (.int .i64 x5) := BXU.out.cell 5
      have g6 : U.cell? ⟨wr.heap.size, 6, none⟩ = some (.slice ca cyc.length cc) := BXU.out.cell 6
      have g7 : U.cell? ⟨wr.heap.size, 7, none⟩ = some (.bool x7) := BXU.out.cell 7
      have g8 : U.cell? ⟨wr.heap.size, 8, none⟩ = some (.int .i64 x8) := BXU.out.cell 8
      have HWU := hid (WR.out.later BU.out)
      have AP := hid (aparts_is x0 x1 x2 x3 x4 x5 ca cc cyc x7 x8 U (HCY.out.later BU.out) HRA.out (PW.out U BWU.out) (NW.out U BWU.out))
      clear BXU HCY
      go_wp2_with fail
      go_at_call 40
      clear hU g0 g1 g2 g3 g4 g5 g6 g7 g8 f0 f1 f2 f3 f4 f5 f6 f7 f8
      refine AP.out.mono ?_
      rintro en w7 ⟨v7, rfl, s7, b7⟩
      have H7 := hid (HWU.out.later b7)
      have S7 := hid s7
      clear s7 b7 HWU AP
      go_wp2_with fail
      go_at_call 34
      refine (SS.line S7.out H7.out (by unfold aParts aHead; simp) (by have := (aParts_size HRA.out).2; omega) (by
        have h1 := aLine_len HRA.out
        have h2 := lines_len R3.out (by omega) k
        have h3 := T3.out
        rw [List.length_append]
        omega)).mono ?_
      rintro en w8 ⟨rfl, h8⟩
      have H8 := hid h8
      clear h8 H7 S7
      go_wp2_with fail
      go_roundg (al.length - (k + 1))
      case measure => omega
      case rel =>
        refine ⟨k + 1, by omega, by omega, by go_num, ?_⟩
        show Wr _ _ _ _ _
        rw [lines_take hlt HX.out, ← List.append_assoc]
        exact H8.out
    · obtain rfl : k = al.length := by omega
      have hWR := WR.out
      rw [List.take_of_length_le (Nat.le_refl _)] at hWR
      have T4 := lines_len R3.out (by omega) al.length
      rw [List.take_of_length_le (Nat.le_refl _)] at T4
      obtain ⟨bs1, hbs1⟩ : ∃ bs1, bs0 ++ al.flatMap (fun a => lineB (aParts a)) = bs1 := ⟨_, rfl⟩
      rw [hbs1] at hWR
      have T5 : Hid (bs1.length ≤ 4008000000) := by
        show _ ≤ _
        rw [← hbs1, List.length_append]
        have := T3.out
        omega
      have HBS1 := hid hbs1
      have H9 := hid hWR
      have m3 : wr.cell? ⟨o, 3, none⟩ = some (.int .i64 e) := (ZZ.out wr hWR.be).cell 3
      have NV := hid (lvName_is e wr (NW.out wr (BB.out wr hWR.be)))
      clear hWR T4 hbs1 WR
      go_wp2_with fail
      go_at_call 41
      refine NV.out.mono ?_
      rintro en w9 ⟨rfl, rfl⟩
      clear NV m3
      go_wp2_with fail
      go_at_call 34
      have T6 : Hid ((lineB [wLevel, nameN e]).length ≤ 4000000) := two_len (by decide) (by have := nameN_size e; omega)
      refine (two_line wLevel (nameN e) H9.out (by have := T5.out; have := T6.out; omega)).mono ?_
      rintro en w10 ⟨rfl, h10⟩
      have H10 := hid h10
      obtain ⟨n0, n1, n2, n3, n4, n5⟩ := (ZZ.out w10 h10.be).cells
      have BV10 : Hid (Below w.heap.size w w10) := BB.out w10 h10.be
      clear h10 H9
      go_wp2_with fail
      go_at_call 42
      refine (ansp_is t u aa al.length ac e x oa os oc w10 (HOS.out.keep (T := All) (fun b _ hbl => BV10.out.block b hbl) (fun _ _ _ => trivial)) (by omega) R5.out (PW.out _ BV10.out)).mono ?_
      rintro en w11 ⟨v11, rfl, s11, b11⟩
      have H11 := hid (H10.out.later b11)
      have S11 := hid s11
      clear s11 b11 n0 n1 n2 n3 n4 n5
      go_wp2_with fail
      go_at_call 34
      have T7 := hid (ansLine_len (x := x) r4 R5.out)
      refine (SS.line S11.out H11.out (by unfold ansParts; simp) (by have := (ansParts_size (x := x) r4 R5.out).2; omega) (by
        have h1 := T5.out
        have h2 := T6.out
        have h3 := T7.out
        rw [List.length_append]
        omega)).mono ?_
      rintro en w12 ⟨rfl, h12⟩
      have H12 := hid h12
      clear h12 H11 S11
      go_wp2_with fail
      go_at_call 43
      refine (Tryz.Builder_String_any_k b b _ w12 H12.out.bu H12.out.low).mono ?_
      rintro en w13 ⟨rfl, q1, q2, q3⟩
      have B13 : Hid (Below w.heap.size w w13) := BB.out w13 (H12.out.be.trans q2)
      clear q1 q2 q3
      go_wp2_with fail
      refine bodyPost_ret (results_tmp2 rfl _ _ _) rfl ⟨⟨_, rfl, ?_⟩, B13.out⟩
      show (bs1 ++ (lineB [wLevel, nameN e] ++ lineB (ansParts x os))) = _
      rw [← HBS1.out, ← HBS.out]
      simp only [printB, List.append_assoc]
set_option maxHeartbeats 2000000 in
set_option maxRecDepth 100000 in
/-- A report that may not be is not printed. -/
theorem print_not {S : Nat → Prop} (t : Int) (u : Bool) (aa : Option Addr) (al : List MA) (ac : Nat) (e x : Int) (oa : Option Addr) (os : List Int) (oc : Nat) (w : World) (hal : AnsS S w (.slice aa al.length ac) al) (hr : canR (t, u, al, e, x, os) = false) (hN : NamesAt w) :
    Calls Tryz.prog 11 #[.agg #[.int .i64 t, .bool u, .slice aa al.length ac, .int .i64 e, .int .i64 x, .slice oa os.length oc]] w fun en w' => en = .returned (.tuple #[.string ⟨#[]⟩, .int .i64 1]) ∧ Below w.heap.size w w' := by
  have BX := box_new w #[.int .i64 t, .bool u, .slice aa al.length ac, .int .i64 e, .int .i64 x, .slice oa os.length oc] 25
  have A1 := hid (below_box w (.cells #[.int .i64 t, .bool u, .slice aa al.length ac, .int .i64 e, .int .i64 x, .slice oa os.length oc] 25))
  obtain ⟨W, hW⟩ : ∃ W, w.alloc (.cells #[.int .i64 t, .bool u, .slice aa al.length ac, .int .i64 e, .int .i64 x, .slice oa os.length oc] 25) = W := ⟨_, rfl⟩
  obtain ⟨o, ho⟩ : ∃ o, w.heap.size = o := ⟨_, rfl⟩
  have BW1 : Hid (Below w.heap.size w W) := by rw [← hW]; exact A1.out
  rw [hW, ho] at BX
  obtain ⟨c0, c1, c2, c3, c4, c5⟩ := BX.cells
  have CAN := hid (ccan_is t u aa al ac e x oa os oc W (hal.keep (T := S) (fun b _ hb => BW1.out.block b hb) (fun _ _ h => h)) (hN.later BW1.out))
  rw [hr] at CAN
  clear BX A1 hal hr hN
  go_enter Tryz.func11, Tryz.ntmps11
  go_wp2_with fail
  go_at_call 19
  refine CAN.out.mono ?_
  rintro en w1 ⟨rfl, b1⟩
  have B1 : Hid (Below w.heap.size w w1) := BW1.out.trans (b1.mono BW1.out.size)
  clear b1 hW ho CAN c0 c1 c2 c3 c4 c5
  go_wp2_with fail
  refine bodyPost_ret (results_tmp2 rfl _ _ _) rfl ⟨rfl, B1.out⟩
end Go.Proofs.YtkpomcimaofkkaaGreatDoor.Rp
namespace Go.Proofs.YtkpomcimaofkkaaGreatDoor.Rp
set_option linter.unusedVariables false
set_option linter.unusedSimpArgs false
open Go.RowKit Go.Lib

theorem parseQ_ok {s : ByteArray} {r : MR} (h : parseQ s = .ok r) : canR r = true ∧ RngR r := by
  unfold parseQ at h
  cases hs : scanM s with
  | error q => rw [hs] at h; cases h
  | ok T =>
    rw [hs] at h
    dsimp only at h
    cases hq : qRep T with
    | none => rw [hq] at h; cases h
    | some z =>
      rw [hq] at h
      dsimp only at h
      cases hc : canR z.1 with
      | false => rw [hc] at h; cases h
      | true =>
        rw [hc] at h
        injection h with h
        rw [← h]
        exact ⟨hc, rng_of hc (rep_rt (x := z.1) (r := z.2) (scanM_form hs) hq)⟩
theorem parseQ_bad {s : ByteArray} {f : Int × Int} (h : parseQ s = .error f) : (f.2 != 0) = true := by
  unfold parseQ at h
  cases hs : scanM s with
  | error q =>
    obtain ⟨a, y⟩ := q
    rw [hs] at h
    dsimp only at h
    injection h with h
    rw [← h]
    exact scanM_err hs
  | ok T =>
    rw [hs] at h
    dsimp only at h
    cases hq : qRep T with
    | none =>
      rw [hq] at h
      injection h with h
      rw [← h]; rfl
    | some z =>
      rw [hq] at h
      dsimp only at h
      cases hc : canR z.1 with
      | false =>
        rw [hc] at h
        injection h with h
        rw [← h]; rfl
      | true => rw [hc] at h; cases h
theorem print_in (r : MR) (v : Value) (w : World) (h : RepIn w v r) (hr : canR r = true) (hR : RngR r) (hT : Pow w.heap.size w) (hN : NamesAt w) :
    Calls Tryz.prog 11 #[v] w fun en w' => (∃ s : ByteArray, en = .returned (.tuple #[.string s, .int .i64 0]) ∧ s.data.toList = printB r) ∧ Below w.heap.size w w' := by
  obtain ⟨t, u, al, e, x, os⟩ := r
  obtain ⟨av, ov, rfl, ha, ho⟩ := h
  obtain ⟨aa, ac, rfl, _, _⟩ := id (Tx.RowsIn.cells ha (by omega))
  obtain ⟨oa, oc, rfl, _, _⟩ := id ho.cells
  exact print_is (S := All) t u aa al ac e x oa os oc w ha ho hr hR hT hN
theorem same_bytes {a b : ByteArray} (h : a.data.toList = b.data.toList) : a = b := by
  apply ByteArray.ext
  exact Array.toList_inj.1 h
set_option maxHeartbeats 8000000 in
set_option maxRecDepth 100000 in
theorem rform_walk (s : ByteArray) (w : World) (te : TypeId) (pe : Value) (hv : w.cell? ⟨6, 0, none⟩ = some (.iface te pe)) (hN : NamesAt w) (ht : Lib.TabIs Tryz.prog w "internal/strconv.uint64pow10" .u64 Lib.pow10Tab) :
    Calls Tryz.prog 5 #[.string s] w fun e w' => e = .returned (.bool true) ∧ Below w.heap.size w w' := by
  have H7 := hid (parse_is s w te pe hv hN)
  have H8 := hid (dparse_is s)
  have hlt := World.block_lt_of_cell? _ _ hv
  have HP7 : Hid (∀ s2 V, Below w.heap.size w V → Calls Tryz.prog 7 #[.string s2] V fun e w' => ParseR V (parseQ s2) e w' ∧ Below V.heap.size V w') := fun s2 V hb => parse_is s2 V te pe ((hb.cell (p := ⟨6, 0, none⟩) hlt).trans hv) (hN.later hb)
  have PW : Hid (∀ V, Below w.heap.size w V → Pow V.heap.size V) := fun V hb => Pow.later (Lib.tabBelow_of_tabIs ht) hb hb.size
  have NW : Hid (∀ V, Below w.heap.size w V → NamesAt V) := fun V hb => hN.later hb
  clear hv hN ht hlt
  cases hO : parseQ s with
  | ok r =>
    rw [hO] at H7 H8
    obtain ⟨hcan, hrng⟩ := parseQ_ok hO
    have PRI : Hid (∀ v V, Below w.heap.size w V → RepIn V v r → Calls Tryz.prog 11 #[v] V fun en w' => (∃ s : ByteArray, en = .returned (.tuple #[.string s, .int .i64 0]) ∧ s.data.toList = printB r) ∧ Below V.heap.size V w') := fun v V hb h => print_in r v V h hcan hrng (PW.out V hb) (NW.out V hb)
    have PPR : Hid (∀ s2 : ByteArray, s2.data.toList = printB r → s2.size ≤ 20000 → parseQ s2 = .ok r) := fun s2 h1 h2 => parse_print hcan hrng h1 h2
    clear hO hcan hrng
    go_enter Tryz.func5, Tryz.ntmps5
    go_wp2_with fail
    go_at_call 7
    refine H7.out.mono ?_
    rintro e w1 ⟨⟨v, rfl, hv1⟩, b1⟩
    have R1 := hid hv1.inAll
    have B1 := hid b1
    obtain ⟨aa, ac, oa, oc, rfl, -, -⟩ := id hv1
    clear hv1 b1 H7
    obtain ⟨t, b, xl, x, y, os⟩ := r
    simp only [encR] at R1 ⊢
    go_wp2_with fail
    go_at_call 8
    obtain ⟨W1, hW1⟩ : ∃ W1, w1.alloc (.cells #[.int .i64 t, .bool b, .slice aa xl.length ac, .int .i64 x, .int .i64 y, .slice oa os.length oc] 25) = W1 := ⟨_, rfl⟩
    have L1 : BoxW W1 w1.heap.size 25 #[.int .i64 t, .bool b, .slice aa xl.length ac, .int .i64 x, .int .i64 y, .slice oa os.length oc] := by rw [← hW1]; exact box_new _ _ _
    have C1 : Hid (Below w.heap.size w W1) := by rw [← hW1]; exact B1.out.trans ((below_box w1 _).mono B1.out.size)
    have R1' := hid (R1.out.later (w' := W1) (by rw [← hW1]; exact below_box w1 _))
    rw [hW1]
    clear hW1 B1 R1
    refine (H8.out W1).mono ?_
    rintro e w2 ⟨⟨v, rfl, hv2⟩, b2⟩
    have R2 := hid hv2.inAll
    have L2 := L1.later b2
    have B2 : Hid (Below w.heap.size w w2) := C1.out.trans (b2.mono C1.out.size)
    have R1'' := hid (R1'.out.later b2)
    obtain ⟨ba, bc, pa, pc, rfl, -, -⟩ := id hv2
    clear hv2 b2 L1 C1 R1' H8
    simp only [encR] at R2 ⊢
    go_wp2_with fail
    go_at_call 9
    obtain ⟨W2, hW2⟩ : ∃ W2, w2.alloc (.cells #[.int .i64 t, .bool b, .slice ba xl.length bc, .int .i64 x, .int .i64 y, .slice pa os.length pc] 25) = W2 := ⟨_, rfl⟩
    have L3 : BoxW W2 w2.heap.size 25 #[.int .i64 t, .bool b, .slice ba xl.length bc, .int .i64 x, .int .i64 y, .slice pa os.length pc] := by rw [← hW2]; exact box_new _ _ _
    have L4 : BoxW W2 w1.heap.size 25 #[.int .i64 t, .bool b, .slice aa xl.length ac, .int .i64 x, .int .i64 y, .slice oa os.length oc] := by rw [← hW2]; exact L2.later (below_box _ _)
    have C2 : Hid (Below w.heap.size w W2) := by rw [← hW2]; exact B2.out.trans ((below_box w2 _).mono B2.out.size)
    have R2' := hid (R2.out.later (w' := W2) (by rw [← hW2]; exact below_box w2 _))
    have R3' := hid (R1''.out.later (w' := W2) (by rw [← hW2]; exact below_box w2 _))
    rw [hW2]
    clear hW2 B2 R2 R1'' L2
    refine (is_nil W2).mono ?_
    rintro e w3 ⟨rfl, b3⟩
    have B3 : Hid (Below w.heap.size w w3) := C2.out.trans (b3.mono C2.out.size)
    have Q1 := hid (R3'.out.later b3)
    have Q2 := hid (R2'.out.later b3)
    have L5 := L4.later b3
    obtain ⟨k0, k1, k2, k3, k4, k5⟩ := L5.cells
    obtain ⟨m0, m1, m2, m3, m4, m5⟩ := (L3.later b3).cells
    have HL5 := hid L5
    clear L3 L4 L5 b3 C2 R2' R3'
    go_wp2_with fail
    go_at_call 10
    refine (sameRep_is _ _ _ w3 Q1.out Q2.out).mono ?_
    rintro e w4 ⟨rfl, b4⟩
    have B4 : Hid (Below w.heap.size w w4) := B3.out.trans (b4.mono B3.out.size)
    have Q4 := hid (Q1.out.later b4)
    have L6 := HL5.out.later b4
    have HL6 := hid L6
    clear k0 k1 k2 k3 k4 k5 m0 m1 m2 m3 m4 m5
    obtain ⟨k0, k1, k2, k3, k4, k5⟩ := L6.cells
    clear b4 L6 HL5 Q1 Q2 B3
    go_wp2_with fail
    go_at_call 11
    refine (PRI.out _ w4 B4.out Q4.out).mono ?_
    rintro e w5 ⟨⟨s1, rfl, hs1⟩, b5⟩
    have B5 : Hid (Below w.heap.size w w5) := B4.out.trans (b5.mono B4.out.size)
    have Q5 := hid (Q4.out.later b5)
    have HL7 := hid (HL6.out.later b5)
    have HS1 := hid hs1
    clear k0 k1 k2 k3 k4 k5 b5 Q4 HL6 B4 hs1
    by_cases hz : 20000 < s1.size
    · have hz1 : (20000 : Int) < (s1.size : Int) := by omega
      go_wp2_with fail
      go_ret
      exact ⟨rfl, B5.out⟩
    · have hz1 : ¬ (20000 : Int) < (s1.size : Int) := by omega
      have H9 := hid (HP7.out s1 w5 B5.out)
      rw [PPR.out s1 HS1.out (by omega)] at H9
      go_wp2_with fail
      go_at_call 7
      refine H9.out.mono ?_
      rintro e w6 ⟨⟨v6, rfl, hv6⟩, b6⟩
      have R6 := hid hv6.inAll
      have B6 : Hid (Below w.heap.size w w6) := B5.out.trans (b6.mono B5.out.size)
      have Q6 := hid (Q5.out.later b6)
      have HL8 := hid (HL7.out.later b6)
      obtain ⟨fa, fc, ga, gc, rfl, -, -⟩ := id hv6
      clear hv6 b6 Q5 HL7 B5 H9
      simp only [encR] at R6 ⊢
      obtain ⟨W6, hW6⟩ : ∃ W6, w6.alloc (.cells #[.int .i64 t, .bool b, .slice fa xl.length fc, .int .i64 x, .int .i64 y, .slice ga os.length gc] 25) = W6 := ⟨_, rfl⟩
      have BX6 := below_box w6 (.cells #[.int .i64 t, .bool b, .slice fa xl.length fc, .int .i64 x, .int .i64 y, .slice ga os.length gc] 25)
      have N6 := box_new w6 #[.int .i64 t, .bool b, .slice fa xl.length fc, .int .i64 x, .int .i64 y, .slice ga os.length gc] 25
      rw [hW6] at BX6 N6
      have HN6 := hid N6
      obtain ⟨n0, n1, n2, n3, n4, n5⟩ := N6.cells
      have B7 : Hid (Below w.heap.size w W6) := B6.out.trans (BX6.mono B6.out.size)
      have R7 := hid (R6.out.later BX6)
      have Q7 := hid (Q6.out.later BX6)
      have HL9 := hid (HL8.out.later BX6)
      clear BX6 N6 B6 R6 Q6 HL8
      go_wp2_with fail
      go_at_call 11
      clear hW6 n0 n1 n2 n3 n4 n5
      refine (PRI.out _ W6 B7.out R7.out).mono ?_
      rintro e w8 ⟨⟨s2, rfl, hs2⟩, b8⟩
      obtain rfl : s2 = s1 := same_bytes (hs2.trans HS1.out.symm)
      have B8 : Hid (Below w.heap.size w w8) := B7.out.trans (b8.mono B7.out.size)
      have Q8 := hid (Q7.out.later b8)
      have R8 := hid (R7.out.later b8)
      obtain ⟨k0, k1, k2, k3, k4, k5⟩ := (HL9.out.later b8).cells
      obtain ⟨n0, n1, n2, n3, n4, n5⟩ := (HN6.out.later b8).cells
      have hss : (s2.toList == s2.toList) = true := by simp
      clear b8 Q7 R7 HL9 HN6 B7 hs2
      go_wp2_with fail
      go_at_call 10
      refine (sameRep_is _ _ _ w8 Q8.out R8.out).mono ?_
      rintro e w9 ⟨rfl, b9⟩
      have B9 : Hid (Below w.heap.size w w9) := B8.out.trans (b9.mono B8.out.size)
      clear b9
      go_wp2_with fail
      go_ret
      exact ⟨rfl, B9.out⟩
  | error f =>
    rw [hO] at H7 H8
    have hbad := parseQ_bad hO
    clear hO
    obtain ⟨f1, f2⟩ := f
    simp only at hbad
    go_enter Tryz.func5, Tryz.ntmps5
    go_wp2_with fail
    go_at_call 7
    refine H7.out.mono ?_
    rintro e w1 ⟨rfl, b1⟩
    have B1 := hid b1
    clear b1 H7
    go_wp2_with fail
    go_at_call 8
    obtain ⟨W1, hW1⟩ : ∃ W1, w1.alloc (.cells zRep 25) = W1 := ⟨_, rfl⟩
    have L1 : BoxW W1 w1.heap.size 25 zRep := by rw [← hW1]; exact box_new _ _ _
    have C1 : Hid (Below w.heap.size w W1) := by rw [← hW1]; exact B1.out.trans ((below_box w1 _).mono B1.out.size)
    rw [hW1]
    clear hW1 B1
    refine (H8.out W1).mono ?_
    rintro e w2 ⟨rfl, b2⟩
    have L2 := L1.later b2
    have B2 : Hid (Below w.heap.size w w2) := C1.out.trans (b2.mono C1.out.size)
    clear b2 L1 C1 H8
    go_wp2_with fail
    go_at_call 9
    obtain ⟨W2, hW2⟩ : ∃ W2, w2.alloc (.cells zRep 25) = W2 := ⟨_, rfl⟩
    have L3 : BoxW W2 w2.heap.size 25 zRep := by rw [← hW2]; exact box_new _ _ _
    have L4 : BoxW W2 w1.heap.size 25 zRep := by rw [← hW2]; exact L2.later (below_box _ _)
    have C2 : Hid (Below w.heap.size w W2) := by rw [← hW2]; exact B2.out.trans ((below_box w2 _).mono B2.out.size)
    rw [hW2]
    clear hW2 B2 L2
    refine (is_fault f1 f2 W2).mono ?_
    rintro e w3 ⟨rfl, b3⟩
    have B3 : Hid (Below w.heap.size w w3) := C2.out.trans (b3.mono C2.out.size)
    obtain ⟨k0, k1, k2, k3, k4, k5⟩ := (L4.later b3).cells
    obtain ⟨m0, m1, m2, m3, m4, m5⟩ := (L3.later b3).cells
    clear L3 L4 b3 C2
    go_wp2_with fail
    go_at_call 10
    refine (sameRep_is nRep _ _ w3 (repIn_nil w3) (repIn_nil w3)).mono ?_
    rintro e w4 ⟨rfl, b4⟩
    have B4 : Hid (Below w.heap.size w w4) := B3.out.trans (b4.mono B3.out.size)
    clear b4
    go_wp2_with fail
    go_ret
    exact ⟨rfl, B4.out⟩
end Go.Proofs.YtkpomcimaofkkaaGreatDoor.Rp
