/-
  The document's Print of a report.
  ReportBack: a report's text is read as it.
-/
import Derived.Test.YtkpomcimaofkkaaDoorV11
import Derived.Test.YtkpomcimaofkkaaDoorV12
namespace Go.Proofs.YtkpomcimaofkkaaDoor.Rp
set_option linter.unusedVariables false
set_option linter.unusedSimpArgs false
open Go.RowKit Go.Lib

theorem sm_of {a : MA} (h : RngA a) : SmA a := ⟨Nat.le_trans h.2.2.2.2.1 (by decide), fun x hx => Nat.le_trans (h.2.2.2.2.2.2 x hx).2.2.2.2 (by decide)⟩
theorem catA_size {al : List MA} (h : ∀ a ∈ al, RngA a) (hn : al.length ≤ 1000) (k : Nat) : (catA (al.take k)).size ≤ 4000000000 := by
  have := lines_len h hn k
  rw [← catA_data, Array.length_toList] at this
  exact this
theorem catN_size : ∀ {os : List Int} (h : ∀ n ∈ os, i64R n), (catN os).size ≤ 22 * os.length
  | [], _ => Nat.zero_le _
  | n :: os, h => by
    have ih := catN_size (os := os) (fun x hx => h x (by simp [hx]))
    have h1 := decB_size (h n (by simp))
    show (spB (decB n) ++ catN os).size ≤ _
    unfold spB
    simp only [ByteArray.size_append, List.length_cons]
    have : (⟨#[32]⟩ : ByteArray).size = 1 := rfl
    omega
theorem word_less {k : Int} (h : (wordN answerWs k).toList ≠ []) : ∃ q : Nat, k = q ∧ q < 4 ∧ answerWs.getD q default = wordN answerWs k := by
  by_cases hk : 0 ≤ k ∧ k < answerWs.length
  · have hl : answerWs.length = 4 := rfl
    refine ⟨k.toNat, by omega, by omega, ?_⟩
    unfold wordN
    rw [if_pos hk]
  · exact absurd (by rw [show wordN answerWs k = ⟨#[]⟩ from if_neg hk, ByteArray.toList_eq]) h
theorem dLine_size {a : MA} (h : RngA a) : (dLine a).size ≤ 4000000 := by
  have h1 := aLine_len h
  have h2 : (dLine a).data.toList = lineB (aParts a) := dan_line a
  rw [← h2, Array.length_toList] at h1
  exact h1
set_option maxHeartbeats 16000000 in
set_option maxRecDepth 100000 in
theorem dprint_is (t : Int) (u : Bool) (aa : Option Addr) (al : List MA) (ac : Nat) (e x : Int) (oa : Option Addr) (os : List Int) (oc : Nat) (w : World) (hal : AnsIn w (.slice aa al.length ac) al) (hos : IntsIn All w (.slice oa os.length oc) os) (hr : canR (t, u, al, e, x, os) = true) (hR : RngR (t, u, al, e, x, os)) :
    Calls Tryd.prog 5 #[.agg #[.int .i64 t, .bool u, .slice aa al.length ac, .int .i64 e, .int .i64 x, .slice oa os.length oc]] w fun en w' => en = .returned (.tuple #[.string (dText (t, u, al, e, x, os)), .int .i64 0]) ∧ Below w.heap.size w w' := by
  obtain ⟨r1, r2, r3, r4, r5⟩ := hR
  obtain ⟨_, HWA, _, hwx, _, _⟩ := canR_yes hr
  simp only at r1 r2 r3 r4 r5 HWA hwx
  obtain ⟨q, rfl, hq, hqw⟩ := word_less hwx
  have BX := box_new w #[.int .i64 t, .bool u, .slice aa al.length ac, .int .i64 e, .int .i64 (q : Int), .slice oa os.length oc] 25
  have A1 := hid (below_box w (.cells #[.int .i64 t, .bool u, .slice aa al.length ac, .int .i64 e, .int .i64 (q : Int), .slice oa os.length oc] 25))
  obtain ⟨W, hW⟩ : ∃ W, w.alloc (.cells #[.int .i64 t, .bool u, .slice aa al.length ac, .int .i64 e, .int .i64 (q : Int), .slice oa os.length oc] 25) = W := ⟨_, rfl⟩
  obtain ⟨o, ho⟩ : ∃ o, w.heap.size = o := ⟨_, rfl⟩
  have BW1 : Hid (Below w.heap.size w W) := by rw [← hW]; exact A1.out
  rw [hW, ho] at BX
  have HBX := hid BX
  obtain ⟨c0, c1, c2, c3, c4, c5⟩ := BX.cells
  have HIN := hid hal
  have HOS := hid hos
  have CAN := hid (dcan_is (S := All) t u aa al ac e q oa os oc W (hal.later BW1.out) (fun a ha => sm_of (r3 a ha)))
  rw [hr] at CAN
  have HWW := hid HWA
  have R3 := hid r3
  have R5 := hid r5
  have hali : (al.length : Int) ≤ 1000 := by omega
  obtain ⟨nt, hnt⟩ : ∃ d, spB (decB t) = d := ⟨_, rfl⟩
  have znt : nt.size ≤ 22 := by rw [← hnt]; exact (by have := decB_size r1; unfold spB; simp only [ByteArray.size_append]; have : (⟨#[32]⟩ : ByteArray).size = 1 := rfl; omega)
  obtain ⟨eu, heu⟩ : ∃ d, eiB u ⟨#[121, 101, 115]⟩ ⟨#[110, 111]⟩ = d := ⟨_, rfl⟩
  have zeu : eu.size ≤ 20 := by rw [← heu]; exact eiB_size _ (by decide) (by decide)
  obtain ⟨lv, hlv⟩ : ∃ d, nameN e = d := ⟨_, rfl⟩
  have zlv : lv.size ≤ 20 := by rw [← hlv]; exact nameN_size _
  obtain ⟨wd, hwd⟩ : ∃ d, wordN answerWs (q : Int) = d := ⟨_, rfl⟩
  have zwd : wd.size ≤ 20 := by rw [← hwd]; exact wordN_size (by decide)
  have za0 : (⟨#[116, 120, 110, 115]⟩ : ByteArray).size = 4 := rfl
  have za1 : (⟨#[10, 117, 110, 105, 113, 117, 101, 32]⟩ : ByteArray).size = 8 := rfl
  have znl : (⟨#[10]⟩ : ByteArray).size = 1 := rfl
  have za3 : (⟨#[108, 101, 118, 101, 108, 32]⟩ : ByteArray).size = 6 := rfl
  have za4 : (⟨#[10, 97, 110, 115, 119, 101, 114, 32]⟩ : ByteArray).size = 8 := rfl
  obtain ⟨s0, hs0⟩ : ∃ d, (⟨#[116, 120, 110, 115]⟩ : ByteArray) ++ nt = d := ⟨_, rfl⟩
  have Z_s0 : Hid ((⟨#[116, 120, 110, 115]⟩ : ByteArray).size + nt.size ≤ 9223372036854775807) := by show _ ≤ _; omega
  have zs0 : s0.size ≤ 40 := by rw [← hs0, ByteArray.size_append]; omega
  have E_s0 := hid hs0
  obtain ⟨s1, hs1⟩ : ∃ d, s0 ++ (⟨#[10, 117, 110, 105, 113, 117, 101, 32]⟩ : ByteArray) = d := ⟨_, rfl⟩
  have Z_s1 : Hid (s0.size + (⟨#[10, 117, 110, 105, 113, 117, 101, 32]⟩ : ByteArray).size ≤ 9223372036854775807) := by show _ ≤ _; omega
  have zs1 : s1.size ≤ 60 := by rw [← hs1, ByteArray.size_append]; omega
  have E_s1 := hid hs1
  obtain ⟨s2, hs2⟩ : ∃ d, s1 ++ eu = d := ⟨_, rfl⟩
  have Z_s2 : Hid (s1.size + eu.size ≤ 9223372036854775807) := by show _ ≤ _; omega
  have zs2 : s2.size ≤ 90 := by rw [← hs2, ByteArray.size_append]; omega
  have E_s2 := hid hs2
  obtain ⟨s3, hs3⟩ : ∃ d, s2 ++ (⟨#[10]⟩ : ByteArray) = d := ⟨_, rfl⟩
  have Z_s3 : Hid (s2.size + (⟨#[10]⟩ : ByteArray).size ≤ 9223372036854775807) := by show _ ≤ _; omega
  have zs3 : s3.size ≤ 100 := by rw [← hs3, ByteArray.size_append]; omega
  have E_s3 := hid hs3
  obtain ⟨l0, hl0⟩ : ∃ d, (⟨#[108, 101, 118, 101, 108, 32]⟩ : ByteArray) ++ lv = d := ⟨_, rfl⟩
  have Z_l0 : Hid ((⟨#[108, 101, 118, 101, 108, 32]⟩ : ByteArray).size + lv.size ≤ 9223372036854775807) := by show _ ≤ _; omega
  have zl0 : l0.size ≤ 40 := by rw [← hl0, ByteArray.size_append]; omega
  have E_l0 := hid hl0
  obtain ⟨l1, hl1⟩ : ∃ d, l0 ++ (⟨#[10, 97, 110, 115, 119, 101, 114, 32]⟩ : ByteArray) = d := ⟨_, rfl⟩
  have Z_l1 : Hid (l0.size + (⟨#[10, 97, 110, 115, 119, 101, 114, 32]⟩ : ByteArray).size ≤ 9223372036854775807) := by show _ ≤ _; omega
  have zl1 : l1.size ≤ 60 := by rw [← hl1, ByteArray.size_append]; omega
  have E_l1 := hid hl1
  obtain ⟨l2, hl2⟩ : ∃ d, l1 ++ wd = d := ⟨_, rfl⟩
  have Z_l2 : Hid (l1.size + wd.size ≤ 9223372036854775807) := by show _ ≤ _; omega
  have zl2 : l2.size ≤ 90 := by rw [← hl2, ByteArray.size_append]; omega
  have E_l2 := hid hl2
  have I_nt : Hid (∀ V, Calls Tryd.prog 18 #[.int .i64 t] V fun e w' => e = .returned (.string nt) ∧ Below V.heap.size V w') := fun V => by rw [← hnt]; exact dnum_is21 t r1 V
  have I_eu : Hid (∀ V, Calls Tryd.prog 19 #[.bool u, .string ⟨#[121, 101, 115]⟩, .string ⟨#[110, 111]⟩] V fun e w' => e = .returned (.string eu) ∧ Below V.heap.size V w') := fun V => by rw [← heu]; exact deither_is21 u _ _ V
  have I_lv : Hid (∀ V, Calls Tryd.prog 21 #[.int .i64 e] V fun e w' => e = .returned (.string lv) ∧ Below V.heap.size V w') := fun V => by rw [← hlv]; exact dname_is21 e V
  have HTOP : Hid (s3 = dTop t u) := by show _ = _; rw [← hs3, ← hs2, ← hs1, ← hs0, ← hnt, ← heu]; rfl
  have HLEV : Hid (l2 = dLev e (q : Int)) := by show _ = _; rw [← hl2, ← hl1, ← hl0, ← hlv, ← hwd]; rfl
  have HWD : Hid (answerWs.getD q default = wd) := by show _ = _; rw [hqw, hwd]
  have ZS3 := hid zs3
  have ZL2 := hid zl2
  clear BX A1 hal hos hr hwx hqw r1 r3 r5 HWA hnt heu hlv hwd hs0 hs1 hs2 hs3 hl0 hl1 hl2 znt zeu zlv zwd zs0 zs1 zs2 zs3 zl0 zl1 zl2
  go_enter Tryd.func5, Tryd.ntmps5
  go_wp2_with fail
  go_at_call 7
  refine CAN.out.mono ?_
  rintro en w1 ⟨rfl, b1⟩
  have B1 : Hid (Below w.heap.size w w1) := BW1.out.trans (b1.mono BW1.out.size)
  have L1 := HBX.out.later b1
  obtain ⟨d0, d1, d2, d3, d4, d5⟩ := L1.cells
  have HL1 := hid L1
  clear b1 L1 hW ho CAN c0 c1 c2 c3 c4 c5
  go_wp2_with fail
  refine wp_region_ask Tryd.mixedOrders (by kernel_rfl) (fun val => { tmps := #[_, _, _, _, val 10, _, _, _, _, _, _, _, val 0, val 1, val 2, val 3, val 4, val 5, val 6, val 7, val 8, val 9, _, _, _, _, _, _, _, _, _, _, _, _, _, _, _, _, _, _, _, _, _, _, _, _, _, _, _, _, _, _, _, _, _, _, _, _, _, _, _, _, _, _, _, _, _, _], defers := [] }) (fun i y V => match i with | 0 => y = .pointer (some ⟨o, 0, none⟩) | 1 => y = .int .i64 t | 2 => y = .string nt | 3 => y = .string s0 | 4 => y = .string s1 | 5 => y = .pointer (some ⟨o, 1, none⟩) | 6 => y = .bool u | 7 => y = .string eu | 8 => y = .string s2 | 9 => y = .string s3 | 10 => y = .string s3 | _ => True) (fun i => match i with | 0 => undef | 1 => undef | 2 => undef | 3 => undef | 4 => undef | 5 => undef | 6 => undef | 7 => undef | 8 => undef | 9 => undef | 10 => undef | _ => undef) rfl ?_ _ rfl ⟨?_, ?_, ?_, ?_, ?_, ?_, ?_, ?_, ?_, ?_, ?_, trivial⟩ ?_
  · intro i v w w' h hb
    match i, h with
    | 0, h => exact h
    | 1, h => exact h
    | 2, h => exact h
    | 3, h => exact h
    | 4, h => exact h
    | 5, h => exact h
    | 6, h => exact h
    | 7, h => exact h
    | 8, h => exact h
    | 9, h => exact h
    | 10, h => exact h
    | _ + 11, h => trivial
  · refine ask_plain rfl (fun _ _ => rfl) (fun val V hb hd => ?_)
    refine does_value (v := .pointer (some ⟨o, 0, none⟩)) ?_ rfl
    simp [execOp, Act.eval, go_sem]
  · refine ask_plain rfl (fun _ _ => rfl) (fun val V hb hd => ?_)
    have h0 : val 0 = .pointer (some ⟨o, 0, none⟩) := depsAll_get hd 0 (by kernel_rfl)
    have e_ := rx_later hb d0
    refine does_value (v := .int .i64 t) ?_ rfl
    simp [execOp, Act.eval, go_sem, h0, e_]
  · refine ask_plain rfl (fun _ _ => rfl) (fun val V hb hd => ?_)
    have h1 : val 1 = .int .i64 t := depsAll_get hd 1 (by kernel_rfl)
    refine does_call (f := 18) (args := #[.int .i64 t]) ?_ (I_nt.out V) ?_
    · simp [execOp, Act.eval, go_sem, resolve, invoke, h1]
    · rintro e w2 ⟨rfl, hb2⟩
      exact ⟨_, rfl, rfl, hb2⟩
  · refine ask_plain rfl (fun _ _ => rfl) (fun val V hb hd => ?_)
    have h2 : val 2 = .string nt := depsAll_get hd 2 (by kernel_rfl)
    exact does_value (run_add rfl rfl h2 Z_s0.out E_s0.out) rfl
  · refine ask_plain rfl (fun _ _ => rfl) (fun val V hb hd => ?_)
    have h3 : val 3 = .string s0 := depsAll_get hd 3 (by kernel_rfl)
    exact does_value (run_add rfl h3 rfl Z_s1.out E_s1.out) rfl
  · refine ask_plain rfl (fun _ _ => rfl) (fun val V hb hd => ?_)
    refine does_value (v := .pointer (some ⟨o, 1, none⟩)) ?_ rfl
    simp [execOp, Act.eval, go_sem]
  · refine ask_plain rfl (fun _ _ => rfl) (fun val V hb hd => ?_)
    have h5 : val 5 = .pointer (some ⟨o, 1, none⟩) := depsAll_get hd 5 (by kernel_rfl)
    have e_ := rx_later hb d1
    refine does_value (v := .bool u) ?_ rfl
    simp [execOp, Act.eval, go_sem, h5, e_]
  · refine ask_plain rfl (fun _ _ => rfl) (fun val V hb hd => ?_)
    have h6 : val 6 = .bool u := depsAll_get hd 6 (by kernel_rfl)
    refine does_call (f := 19) (args := #[.bool u, .string ⟨#[121, 101, 115]⟩, .string ⟨#[110, 111]⟩]) ?_ (I_eu.out V) ?_
    · simp [execOp, Act.eval, go_sem, resolve, invoke, h6]
    · rintro e w2 ⟨rfl, hb2⟩
      exact ⟨_, rfl, rfl, hb2⟩
  · refine ask_plain rfl (fun _ _ => rfl) (fun val V hb hd => ?_)
    have h4 : val 4 = .string s1 := depsAll_get hd 4 (by kernel_rfl)
    have h7 : val 7 = .string eu := depsAll_get hd 7 (by kernel_rfl)
    exact does_value (run_add rfl h4 h7 Z_s2.out E_s2.out) rfl
  · refine ask_plain rfl (fun _ _ => rfl) (fun val V hb hd => ?_)
    have h8 : val 8 = .string s2 := depsAll_get hd 8 (by kernel_rfl)
    exact does_value (run_add rfl h8 rfl Z_s3.out E_s3.out) rfl
  · refine ask_plain rfl (fun _ _ => rfl) (fun val V hb hd => ?_)
    have h9 : val 9 = .string s3 := depsAll_get hd 9 (by kernel_rfl)
    refine does_value (v := .string s3) ?_ rfl
    simp [execOp, Act.eval, go_sem, h9]
  · intro val V hb hR
    have hr : val 10 = .string s3 := hR 10 (by decide)
    have BV : Hid (Below w.heap.size w V) := B1.out.trans (hb.mono B1.out.size)
    clear hR
    simp only [hr]
    have HV := hid hb
    have d2' : V.cell? ⟨o, 2, none⟩ = some (.slice aa al.length ac) := (HL1.out.later hb).cell 2
    clear hr d0 d1 d2 d3 d4 d5 hb I_nt I_eu
    have BB : Hid (∀ V2, Below w1.heap.size w1 V2 → Below w.heap.size w V2) := fun V2 h2 => B1.out.trans (h2.mono B1.out.size)
    have ZZ : Hid (∀ V2, Below w1.heap.size w1 V2 → BoxW V2 o 25 #[.int .i64 t, .bool u, .slice aa al.length ac, .int .i64 e, .int .i64 (q : Int), .slice oa os.length oc]) := fun V2 h2 => HL1.out.later h2
    go_wp2_with fail
    go_loopg [4, 6, 25] al.length (fun gg v4 _ i wr => ∃ (k : Nat) (sb : ByteArray), k ≤ al.length ∧ al.length - k ≤ gg ∧ i = .int .i64 k ∧ v4 = .string sb ∧ Aside (sb = s3 ++ catA (al.take k)) ∧ Aside (Below w1.heap.size w1 wr))
    case atStart => exact ⟨0, s3, Nat.zero_le _, by omega, rfl, rfl, by show s3 = s3 ++ ⟨#[]⟩; apply eq_of_data; simp [ByteArray.data_append], HV.out⟩
    case round =>
      clear HV d2'
      obtain ⟨k, sb, hk, hg, rfl, rfl, SE, BR⟩ := hrel
      have ZB : Hid (sb.size ≤ 4000000100) := by
        show _ ≤ _
        rw [SE.out, ByteArray.size_append]
        have := catA_size R3.out (by omega) k
        have := ZS3.out
        omega
      by_cases hlt : k < al.length
      · have hlti : (k : Int) < al.length := by omega
        have hk0 : (0 : Int) ≤ k := by omega
        have HAR := HIN.out.later (BB.out wr BR.out)
        obtain ⟨ao2, ac2, e2, _, hrc⟩ := Tx.RowsIn.cells HAR (by omega)
        obtain ⟨b, off, cs, hab, hbl, hlen, ⟨cv, hrow, hcy⟩, hcs⟩ := hrc k hlt
        simp only [Value.slice.injEq, true_and] at e2
        obtain ⟨e2, e3⟩ := e2
        subst hab
        subst e2
        subst e3
        have hmem : al.getD k default ∈ al := by rw [List.getD, List.getElem?_eq_getElem hlt]; exact List.getElem_mem _
        have hRA := R3.out _ hmem
        have hWA := wrongA_no (HWW.out _ hmem)
        obtain ⟨⟨x0, x1, x2, x3, x4, x5, cyc, x7, x8⟩, hx⟩ : ∃ x, al.getD k default = x := ⟨_, rfl⟩
        rw [hx] at hrow hRA hcy hWA
        have HX := hid hx
        obtain ⟨ca, cc, rfl, _, _⟩ := id (Tx.RowsIn.cells hcy (by omega))
        simp only [MA.cyc] at hcy
        simp only [encA, MA.cyc] at hrow
        subst hrow
        have HCY := hid hcy
        have HRA := hid hRA
        have HKD := hid hWA.1
        clear hx HAR hrc hcy hRA hWA hmem
        have f0 : wr.cell? ⟨b, off + k * 9, none⟩ = some (.int .i64 x0) := by simpa using hcs 0 (.int .i64 x0) rfl
        have f1 : wr.cell? ⟨b, off + k * 9 + 1, none⟩ = some (.int .i64 x1) := by simpa using hcs 1 (.int .i64 x1) rfl
        have f2 : wr.cell? ⟨b, off + k * 9 + 2, none⟩ = some (.int .i64 x2) := by simpa using hcs 2 (.int .i64 x2) rfl
        have f3 : wr.cell? ⟨b, off + k * 9 + 3, none⟩ = some (.int .i64 x3) := by simpa using hcs 3 (.int .i64 x3) rfl
        have f4 : wr.cell? ⟨b, off + k * 9 + 4, none⟩ = some (.string x4) := by simpa using hcs 4 (.string x4) rfl
        have f5 : wr.cell? ⟨b, off + k * 9 + 5, none⟩ = some (.int .i64 x5) := by simpa using hcs 5 (.int .i64 x5) rfl
        have f6 : wr.cell? ⟨b, off + k * 9 + 6, none⟩ = some (.slice ca cyc.length cc) := by simpa using hcs 6 (.slice ca cyc.length cc) rfl
        have f7 : wr.cell? ⟨b, off + k * 9 + 7, none⟩ = some (.bool x7) := by simpa using hcs 7 (.bool x7) rfl
        have f8 : wr.cell? ⟨b, off + k * 9 + 8, none⟩ = some (.int .i64 x8) := by simpa using hcs 8 (.int .i64 x8) rfl
        clear hcs hlen
        obtain ⟨U, hU⟩ : ∃ U, wr.alloc (.cells #[.int .i64 x0, .int .i64 x1, .int .i64 x2, .int .i64 x3, .string x4, .int .i64 x5, .slice ca cyc.length cc, .bool x7, .int .i64 x8] 46) = U := ⟨_, rfl⟩
        have BU : Hid (Below wr.heap.size wr U) := by rw [← hU]; exact below_box wr _
        have BXU : Hid (BoxW U wr.heap.size 46 #[.int .i64 x0, .int .i64 x1, .int .i64 x2, .int .i64 x3, .string x4, .int .i64 x5, .slice ca cyc.length cc, .bool x7, .int .i64 x8]) := by rw [← hU]; exact box_new wr _ _
        have BRU : Hid (Below w1.heap.size w1 U) := BR.out.trans (BU.out.mono BR.out.size)
        have g0 : U.cell? ⟨wr.heap.size, 0, none⟩ = some (.int .i64 x0) := BXU.out.cell 0
        have g1 : U.cell? ⟨wr.heap.size, 1, none⟩ = some (.int .i64 x1) := BXU.out.cell 1
        have g2 : U.cell? ⟨wr.heap.size, 2, none⟩ = some (.int .i64 x2) := BXU.out.cell 2
        have g3 : U.cell? ⟨wr.heap.size, 3, none⟩ = some (.int .i64 x3) := BXU.out.cell 3
        have g4 : U.cell? ⟨wr.heap.size, 4, none⟩ = some (.string x4) := BXU.out.cell 4
        have g5 : U.cell? ⟨wr.heap.size, 5, none⟩ = some (.int .i64 x5) := BXU.out.cell 5
        have g6 : U.cell? ⟨wr.heap.size, 6, none⟩ = some (.slice ca cyc.length cc) := BXU.out.cell 6
        have g7 : U.cell? ⟨wr.heap.size, 7, none⟩ = some (.bool x7) := BXU.out.cell 7
        have g8 : U.cell? ⟨wr.heap.size, 8, none⟩ = some (.int .i64 x8) := BXU.out.cell 8
        have AP := hid (dan_head x0 x1 x2 x3 x4 x5 ca cc cyc x7 x8 U (HCY.out.later BU.out) HKD.out HRA.out)
        clear BXU HCY HKD
        go_wp2_with fail
        go_at_call 20
        clear hU g0 g1 g2 g3 g4 g5 g6 g7 g8 f0 f1 f2 f3 f4 f5 f6 f7 f8
        refine AP.out.mono ?_
        rintro en w7 ⟨⟨s, rfl, hs⟩, b7⟩
        have HS : Hid (s = dLine (x0, x1, x2, x3, x4, x5, cyc, x7, x8)) := hs
        have B7 : Hid (Below w1.heap.size w1 w7) := BRU.out.trans (b7.mono BRU.out.size)
        have hz2 : s.size ≤ 4000000 := by rw [HS.out]; exact dLine_size HRA.out
        have hz : sb.size + s.size ≤ 9223372036854775807 := by have := ZB.out; omega
        clear hs b7 AP hz2
        go_wp2_with fail
        go_roundg (al.length - (k + 1))
        case measure => omega
        case rel =>
          refine ⟨k + 1, sb ++ s, by omega, by omega, by go_num, rfl, ?_, B7.out⟩
          show sb ++ s = _
          rw [catA_take hlt HX.out, HS.out, SE.out, ByteArray.append_assoc]
      · obtain rfl : k = al.length := by omega
        have HSB : Hid (sb = s3 ++ catA al) := by show _ = _; rw [SE.out, List.take_of_length_le (Nat.le_refl _)]
        have d3 : wr.cell? ⟨o, 3, none⟩ = some (.int .i64 e) := (ZZ.out wr BR.out).cell 3
        have d4 : wr.cell? ⟨o, 4, none⟩ = some (.int .i64 (q : Int)) := (ZZ.out wr BR.out).cell 4
        clear SE HIN R3 HWW
        have Z_f : Hid (sb.size + l2.size ≤ 9223372036854775807) := by show _ ≤ _; have := ZB.out; have := ZL2.out; omega
        go_wp2_with fail
        refine wp_region_then2 Tryd.mixedOrders (by kernel_rfl) 12 40 (fun s_ val => { tmps := #[_, _, _, _, s_, _, _, _, _, _, _, _, _, _, _, _, _, _, _, _, _, _, _, _, _, _, _, _, _, _, _, _, _, _, val 0, val 1, val 2, val 3, val 4, val 5, val 6, val 7, val 8, val 9, val 10, val 11, val 12, _, _, _, _, _, _, _, _, _, _, _, _, _, _, _, _, _, _, _, _, _], defers := [] }) (.string sb) (fun i y V => match i with | 0 => y = .string sb | 1 => y = .pointer (some ⟨o, 3, none⟩) | 2 => y = .int .i64 e | 3 => y = .string lv | 4 => y = .string l0 | 5 => y = .string l1 | 6 => ∃ g, y = .slice (some ⟨g, 0, none⟩) 4 4 ∧ WordsAt V g answerWs | 7 => y = .pointer (some ⟨o, 4, none⟩) | 8 => y = .int .i64 (q : Int) | 9 => ∃ g, y = .pointer (some ⟨g, q, none⟩) ∧ WordsAt V g answerWs | 10 => y = .string wd | 11 => y = .string l2 | _ => True) (fun i => match i with | 0 => undef | 1 => undef | 2 => undef | 3 => undef | 4 => undef | 5 => undef | 6 => undef | 7 => undef | 8 => undef | 9 => undef | 10 => undef | 11 => undef | 12 => undef | 13 => (.string sb) | _ => undef) rfl rfl _ rfl rfl _ _ rfl rfl (by kernel_rfl) (by kernel_rfl) rfl rfl (fun _ _ => rfl) (fun _ _ => rfl) (by kernel_rfl) ?_ (fun v V => v = .string (sb ++ l2) ∧ Below w1.heap.size w1 V) ⟨?_, ?_, ?_, ?_, ?_, ?_, ?_, ?_, ?_, ?_, ?_, ?_, trivial⟩ ?_ ?_ ?_
        · intro i v w w' h hb
          match i, h with
          | 0, h => exact h
          | 1, h => exact h
          | 2, h => exact h
          | 3, h => exact h
          | 4, h => exact h
          | 5, h => exact h
          | 6, h => exact h.imp fun g q => ⟨q.1, q.2.below hb⟩
          | 7, h => exact h
          | 8, h => exact h
          | 9, h => exact h.imp fun g q => ⟨q.1, q.2.below hb⟩
          | 10, h => exact h
          | 11, h => exact h
          | _ + 12, h => trivial
        · refine ask_plain rfl (fun _ _ => rfl) (fun val V hb hd => ?_)
          refine does_value (v := .string sb) ?_ rfl
          simp [execOp, Act.eval, go_sem]
        · refine ask_plain rfl (fun _ _ => rfl) (fun val V hb hd => ?_)
          refine does_value (v := .pointer (some ⟨o, 3, none⟩)) ?_ rfl
          simp [execOp, Act.eval, go_sem]
        · refine ask_plain rfl (fun _ _ => rfl) (fun val V hb hd => ?_)
          have h1 : val 1 = .pointer (some ⟨o, 3, none⟩) := depsAll_get hd 1 (by kernel_rfl)
          have e_ := rx_later hb d3
          refine does_value (v := .int .i64 e) ?_ rfl
          simp [execOp, Act.eval, go_sem, h1, e_]
        · refine ask_plain rfl (fun _ _ => rfl) (fun val V hb hd => ?_)
          have h2 : val 2 = .int .i64 e := depsAll_get hd 2 (by kernel_rfl)
          refine does_call (f := 21) (args := #[.int .i64 e]) ?_ (I_lv.out V) ?_
          · simp [execOp, Act.eval, go_sem, resolve, invoke, h2]
          · rintro e w2 ⟨rfl, hb2⟩
            exact ⟨_, rfl, rfl, hb2⟩
        · refine ask_plain rfl (fun _ _ => rfl) (fun val V hb hd => ?_)
          have h3 : val 3 = .string lv := depsAll_get hd 3 (by kernel_rfl)
          exact does_value (run_add rfl rfl h3 Z_l0.out E_l0.out) rfl
        · refine ask_plain rfl (fun _ _ => rfl) (fun val V hb hd => ?_)
          have h4 : val 4 = .string l0 := depsAll_get hd 4 (by kernel_rfl)
          exact does_value (run_add rfl h4 rfl Z_l1.out E_l1.out) rfl
        · refine ask_plain rfl (fun _ _ => rfl) (fun val V hb hd => ?_)
          refine does_grown (v := .slice (some ⟨V.heap.size, 0, none⟩) 4 4) (w' := V.alloc (.cells #[.string ⟨#[110, 111, 110, 101]⟩, .string ⟨#[121, 101, 115]⟩, .string ⟨#[110, 111]⟩, .string ⟨#[117, 110, 107, 110, 111, 119, 110]⟩] 9)) ?_ ⟨_, rfl, words_is V answerWs⟩ (below_box V _)
          simp [execOp, Act.eval, go_sem]
        · refine ask_plain rfl (fun _ _ => rfl) (fun val V hb hd => ?_)
          refine does_value (v := .pointer (some ⟨o, 4, none⟩)) ?_ rfl
          simp [execOp, Act.eval, go_sem]
        · refine ask_plain rfl (fun _ _ => rfl) (fun val V hb hd => ?_)
          have h7 : val 7 = .pointer (some ⟨o, 4, none⟩) := depsAll_get hd 7 (by kernel_rfl)
          have e_ := rx_later hb d4
          refine does_value (v := .int .i64 (q : Int)) ?_ rfl
          simp [execOp, Act.eval, go_sem, h7, e_]
        · refine ask_plain rfl (fun _ _ => rfl) (fun val V hb hd => ?_)
          obtain ⟨g, h6, hg⟩ := depsAll_get hd 6 (by kernel_rfl)
          have h8 : val 8 = .int .i64 (q : Int) := depsAll_get hd 8 (by kernel_rfl)
          have hqi : (q : Int) < 4 := by omega
          have hq0 : (0 : Int) ≤ q := by omega
          refine does_value (v := .pointer (some ⟨g, q, none⟩)) ?_ ⟨g, rfl, hg⟩
          simp [execOp, Act.eval, go_sem, h6, h8, hqi, hq0]
        · refine ask_plain rfl (fun _ _ => rfl) (fun val V hb hd => ?_)
          obtain ⟨g, h9, hg⟩ := depsAll_get hd 9 (by kernel_rfl)
          have hc := hg.cell (k := q) hq
          rw [HWD.out] at hc
          refine does_value (v := .string wd) ?_ rfl
          simp [execOp, Act.eval, go_sem, h9, hc]
        · refine ask_plain rfl (fun _ _ => rfl) (fun val V hb hd => ?_)
          have h5 : val 5 = .string l1 := depsAll_get hd 5 (by kernel_rfl)
          have h10 : val 10 = .string wd := depsAll_get hd 10 (by kernel_rfl)
          exact does_value (run_add rfl h5 h10 Z_l2.out E_l2.out) rfl
        · intro val V hb hd K hK
          have h0 : val 0 = .string sb := depsAll_get hd 0 (by kernel_rfl)
          have h11 : val 11 = .string l2 := depsAll_get hd 11 (by kernel_rfl)
          unfold Oper.wp
          rw [run_add rfl h0 h11 Z_f.out rfl]
          exact hK _ V ⟨rfl, BR.out.trans (hb.mono BR.out.size)⟩
        · intro val V
          simp [execOp, Act.eval, go_sem]
        · rintro val V ⟨hs, hbV⟩
          have HB := hid hbV
          have ZV := ZZ.out V hbV
          have v4 : V.cell? ⟨o, 4, none⟩ = some (.int .i64 (q : Int)) := ZV.cell 4
          have v5 : V.cell? ⟨o, 5, none⟩ = some (.slice oa os.length oc) := ZV.cell 5
          clear hbV ZV d3 d4
          simp only [hs]
          clear hs
          have zsl : (sb ++ l2).size ≤ 4000000300 := by rw [ByteArray.size_append]; have := ZB.out; have := ZL2.out; omega
          obtain ⟨sc, hsc⟩ : ∃ sc, sb ++ l2 = sc := ⟨_, rfl⟩
          rw [hsc] at zsl
          simp only [hsc]
          have HSC : Hid (sc = dTop t u ++ catA al ++ dLev e (q : Int)) := by show _ = _; rw [← hsc, HSB.out, HTOP.out, HLEV.out]
          clear hsc
          by_cases hq1 : q = 1
          · subst hq1
            have hop : ((⟨#[32, 40]⟩ : ByteArray)).size = 2 := rfl
            have hz : sc.size + (⟨#[32, 40]⟩ : ByteArray).size ≤ 9223372036854775807 := by omega
            go_wp2_with fail
            obtain ⟨sd, hsd⟩ : ∃ sd, sc ++ ⟨#[32, 40]⟩ = sd := ⟨_, rfl⟩
            have zsd : sd.size ≤ 4000000400 := by rw [← hsd, ByteArray.size_append]; omega
            have HSD := hid hsd.symm
            simp only [hsd]
            have HZD := hid zsd
            clear hsd hz zsd
            go_loopg [4, 8, 55] os.length (fun gg v4 _ i wr => ∃ (k : Nat) (se : ByteArray), k ≤ os.length ∧ os.length - k ≤ gg ∧ i = .int .i64 k ∧ v4 = .string se ∧ Aside (se = sd ++ catN (os.take k)) ∧ Aside (Below w1.heap.size w1 wr))
            case atStart => exact ⟨0, sd, Nat.zero_le _, by omega, rfl, rfl, by show sd = sd ++ ⟨#[]⟩; apply eq_of_data; simp [ByteArray.data_append], HB.out⟩
            case round =>
              clear HB v4 v5
              obtain ⟨k, se, hk, hg, rfl, rfl, SE2, BR2⟩ := hrel
              have ZE : Hid (se.size ≤ 4000010000) := by
                show _ ≤ _
                rw [SE2.out, ByteArray.size_append]
                have h1 := catN_size (os := os.take k) (fun n hn => R5.out n (List.mem_of_mem_take hn))
                have h2 := HZD.out
                have h3 : (os.take k).length ≤ 300 := by rw [List.length_take]; omega
                omega
              by_cases hlt : k < os.length
              · have hlti : (k : Int) < os.length := by omega
                have hk0 : (0 : Int) ≤ k := by omega
                have HOR := IntsIn.laterB HOS.out (BB.out _ BR2.out)
                obtain ⟨oa2, oc2, e2, _, hc⟩ := HOR.cells
                obtain ⟨b, off, hab, hcell⟩ := hc k hlt
                simp only [Value.slice.injEq, true_and] at e2
                obtain ⟨e2, e3⟩ := e2
                subst hab
                subst e2
                subst e3
                obtain ⟨n, hnn⟩ : ∃ n, os.getD k default = n := ⟨_, rfl⟩
                have hrn := R5.out (os.getD k default) (by simp [List.getD, List.getElem?_eq_getElem hlt])
                rw [hnn] at hcell hrn
                have HX := hid hnn
                have hz4 := decB_size hrn
                obtain ⟨d, hd⟩ : ∃ d, spB (decB n) = d := ⟨_, rfl⟩
                have IT := hid (dnum_is21 n hrn wr)
                have hz : se.size + d.size ≤ 9223372036854775807 := by
                  have := ZE.out
                  rw [← hd]
                  unfold spB
                  rw [ByteArray.size_append]
                  have : (⟨#[32]⟩ : ByteArray).size = 1 := rfl
                  omega
                rw [hd] at IT
                have HD := hid hd
                clear hnn hrn hd HOR hc hz4
                go_wp2_with fail
                go_at_call 18
                refine IT.out.mono ?_
                rintro en w8 ⟨rfl, b8⟩
                have B8 : Hid (Below w1.heap.size w1 w8) := BR2.out.trans (b8.mono BR2.out.size)
                clear b8 hcell IT
                go_wp2_with fail
                go_roundg (os.length - (k + 1))
                case measure => omega
                case rel =>
                  refine ⟨k + 1, se ++ d, by omega, by omega, by go_num, rfl, ?_, B8.out⟩
                  show se ++ d = _
                  rw [catN_take hlt HX.out, HD.out, SE2.out, ByteArray.append_assoc]
              · obtain rfl : k = os.length := by omega
                have HSE : Hid (se = sd ++ catN os) := by show _ = _; rw [SE2.out, List.take_of_length_le (Nat.le_refl _)]
                have hcl : ((⟨#[32, 41]⟩ : ByteArray)).size = 2 := rfl
                have hz : se.size + (⟨#[32, 41]⟩ : ByteArray).size ≤ 9223372036854775807 := by have := ZE.out; omega
                have hz2 : (se ++ ⟨#[32, 41]⟩).size + (⟨#[10]⟩ : ByteArray).size ≤ 9223372036854775807 := by rw [ByteArray.size_append]; have := ZE.out; have : ((⟨#[10]⟩ : ByteArray)).size = 1 := rfl; omega
                have HTX : Hid (dText (t, u, al, e, ((1 : Nat) : Int), os) = se ++ ⟨#[32, 41]⟩ ++ ⟨#[10]⟩) := by
                  show _ = _
                  rw [HSE.out, HSD.out, HSC.out]
                  rfl
                go_wp2_with fail
                refine bodyPost_ret (results_tmp2 rfl _ _ _) rfl ⟨?_, BB.out _ BR2.out⟩
                rw [HTX.out]
                rfl
          · have hqi : ((q : Int) == 1) = false := by simp; omega
            have hz : sc.size + (⟨#[10]⟩ : ByteArray).size ≤ 9223372036854775807 := by have : ((⟨#[10]⟩ : ByteArray)).size = 1 := rfl; omega
            have HTX : Hid (dText (t, u, al, e, (q : Int), os) = sc ++ ⟨#[10]⟩) := by
              show _ = _
              unfold dText
              simp only
              rw [if_neg (by omega), HSC.out]
            go_wp2_with fail
            refine bodyPost_ret (results_tmp2 rfl _ _ _) rfl ⟨?_, BB.out _ HB.out⟩
            rw [HTX.out]
            rfl
end Go.Proofs.YtkpomcimaofkkaaDoor.Rp
namespace Go.Proofs.YtkpomcimaofkkaaDoor.Rp
set_option linter.unusedVariables false
set_option linter.unusedSimpArgs false
open Go.RowKit Go.Lib

set_option maxHeartbeats 2000000 in
set_option maxRecDepth 100000 in
/-- A report that may not be is not printed. -/
theorem dprint_not (t : Int) (u : Bool) (aa : Option Addr) (al : List MA) (ac : Nat) (e x : Int) (oa : Option Addr) (os : List Int) (oc : Nat) (w : World) (hal : AnsIn w (.slice aa al.length ac) al) (hr : canR (t, u, al, e, x, os) = false) (hsm : ∀ a ∈ al, SmA a) :
    Calls Tryd.prog 5 #[.agg #[.int .i64 t, .bool u, .slice aa al.length ac, .int .i64 e, .int .i64 x, .slice oa os.length oc]] w fun en w' => en = .returned (.tuple #[.string ⟨#[]⟩, .int .i64 1]) ∧ Below w.heap.size w w' := by
  have BX := box_new w #[.int .i64 t, .bool u, .slice aa al.length ac, .int .i64 e, .int .i64 x, .slice oa os.length oc] 25
  have A1 := hid (below_box w (.cells #[.int .i64 t, .bool u, .slice aa al.length ac, .int .i64 e, .int .i64 x, .slice oa os.length oc] 25))
  obtain ⟨W, hW⟩ : ∃ W, w.alloc (.cells #[.int .i64 t, .bool u, .slice aa al.length ac, .int .i64 e, .int .i64 x, .slice oa os.length oc] 25) = W := ⟨_, rfl⟩
  obtain ⟨o, ho⟩ : ∃ o, w.heap.size = o := ⟨_, rfl⟩
  have BW1 : Hid (Below w.heap.size w W) := by rw [← hW]; exact A1.out
  rw [hW, ho] at BX
  obtain ⟨c0, c1, c2, c3, c4, c5⟩ := BX.cells
  have CAN := hid (dcan_is (S := All) t u aa al ac e x oa os oc W (ansIn_later hal BW1.out) hsm)
  rw [hr] at CAN
  clear BX A1 hal hr hsm
  go_enter Tryd.func5, Tryd.ntmps5
  go_wp2_with fail
  go_at_call 7
  refine CAN.out.mono ?_
  rintro en w1 ⟨rfl, b1⟩
  have B1 : Hid (Below w.heap.size w w1) := BW1.out.trans (b1.mono BW1.out.size)
  clear b1 hW ho CAN c0 c1 c2 c3 c4 c5
  go_wp2_with fail
  refine bodyPost_ret (results_tmp2 rfl _ _ _) rfl ⟨rfl, B1.out⟩
/-- The program's Print and the document's print one text, or none. -/
theorem print_both (t : Int) (u : Bool) (aa : Option Addr) (al : List MA) (ac : Nat) (e x : Int) (oa : Option Addr) (os : List Int) (oc : Nat) (w : World) (ha : AnsIn w (.slice aa al.length ac) al) (ho : IntsIn All w (.slice oa os.length oc) os) (hi : InR (t, u, al, e, x, os)) (hsm : SmR (t, u, al, e, x, os)) (hT : Lib.TabIs Tryd.prog w "internal/strconv.uint64pow10" .u64 Lib.pow10Tab) (hN : NamesAt w) :
    ∃ (s : ByteArray) (n : Int), ((canR (t, u, al, e, x, os) = false ∧ n = 1 ∧ s = ⟨#[]⟩) ∨ (canR (t, u, al, e, x, os) = true ∧ n = 0 ∧ s.data.toList = printB (t, u, al, e, x, os))) ∧
      Hid (∀ V, Below w.heap.size w V → Calls Tryd.prog 4 #[.agg #[.int .i64 t, .bool u, .slice aa al.length ac, .int .i64 e, .int .i64 x, .slice oa os.length oc]] V fun en w' => en = .returned (.tuple #[.string s, .int .i64 n]) ∧ Below V.heap.size V w') ∧
      Hid (∀ V, Below w.heap.size w V → Calls Tryd.prog 5 #[.agg #[.int .i64 t, .bool u, .slice aa al.length ac, .int .i64 e, .int .i64 x, .slice oa os.length oc]] V fun en w' => en = .returned (.tuple #[.string s, .int .i64 n]) ∧ Below V.heap.size V w') := by
  have PW : ∀ V, Below w.heap.size w V → Pow V.heap.size V := fun V hb => Pow.later (Lib.tabBelow_of_tabIs hT) hb hb.size
  cases hc : canR (t, u, al, e, x, os) with
  | false => exact ⟨_, 1, .inl ⟨rfl, rfl, rfl⟩, fun V hb => print_not (S := All) t u aa al ac e x oa os oc V (ansIn_later ha hb) hc (hN.later hb), fun V hb => dprint_not t u aa al ac e x oa os oc V (ansIn_later ha hb) hc hsm⟩
  | true =>
    have hR := rng_of hc hi
    refine ⟨dText (t, u, al, e, x, os), 0, .inr ⟨rfl, rfl, dText_data _⟩, fun V hb => ?_, fun V hb => dprint_is t u aa al ac e x oa os oc V (ansIn_later ha hb) (IntsIn.laterB ho hb) hc hR⟩
    refine (print_is (S := All) t u aa al ac e x oa os oc V (ansIn_later ha hb) (IntsIn.laterB ho hb) hc hR (PW V hb) (hN.later hb)).mono ?_
    rintro en w' ⟨⟨s, rfl, hs⟩, h2⟩
    obtain rfl : s = dText (t, u, al, e, x, os) := eq_of_data (hs.trans (dText_data _).symm)
    exact ⟨rfl, h2⟩
end Go.Proofs.YtkpomcimaofkkaaDoor.Rp
