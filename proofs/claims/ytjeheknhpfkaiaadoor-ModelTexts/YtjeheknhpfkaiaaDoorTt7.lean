/-
  The law ModelTexts.
-/
import Derived.Test.YtjeheknhpfkaiaaDoorTt6
namespace Go.Proofs.YtjeheknhpfkaiaaDoor
set_option linter.unusedVariables false
set_option linter.unusedSimpArgs false
open Go.RowKit Go.Lib

theorem lst_none {L : List MOp} {s : ByteArray} (h : ∀ o ∈ L, o.key ≠ s) : lstM L s = [] := by
  unfold lstM
  rw [(List.filter_eq_nil_iff (p := apB s)).2 (fun o ho c => h o ho (of_decide_eq_true (show decide (o.kind = 1 ∧ o.key = s) = true from c)).2)]
  rfl
theorem reg_none {L : List MOp} {s : ByteArray} (h : ∀ o ∈ L, o.key ≠ s) : regM L s = none := by
  unfold regM
  rw [(List.find?_eq_none (p := rgB s)).2 (fun o ho c => h o (List.mem_reverse.1 ho) (of_decide_eq_true (show decide (o.kind = 3 ∧ o.key = s) = true from c)).2)]
  rfl
theorem same_all (L1 L2 : List MOp) : (∀ o ∈ L1 ++ L2, SameAt L1 L2 o.key) ↔ ∀ s, SameAt L1 L2 s := by
  constructor
  · intro h s
    by_cases hs : ∃ o ∈ L1 ++ L2, o.key = s
    · obtain ⟨o, ho, rfl⟩ := hs
      exact h o ho
    · have h1 : ∀ o ∈ L1, o.key ≠ s := fun o ho e => hs ⟨o, List.mem_append.2 (.inl ho), e⟩
      have h2 : ∀ o ∈ L2, o.key ≠ s := fun o ho e => hs ⟨o, List.mem_append.2 (.inr ho), e⟩
      exact ⟨by rw [reg_none h1, reg_none h2], by rw [lst_none h1, lst_none h2]⟩
  · intro h o _
    exact h o.key
theorem text_same {L1 L2 : List MOp} {T1 T2 : Bs} {b : Bool} (h1 : Tx0 L1 T1) (h2 : Tx0 L2 T2) (hb : b = true ↔ ∀ o ∈ L1 ++ L2, SameAt L1 L2 o.key) : decide (T1 = T2) = b := by
  refine bool_iff ?_
  rw [decide_eq_true_iff, hb, same_all]
  constructor
  · intro e s
    subst e
    obtain ⟨q1, q2⟩ := h1.back h2
    exact ⟨q2 s, q1 s⟩
  · intro h
    exact h1.same h2 (fun s => (h s).2) (fun s => (h s).1)
set_option maxHeartbeats 4000000 in
set_option maxRecDepth 100000 in
theorem texts_walk (v u : Value) (l0 l : List MOp) (w : World) (h0 : OpsIn Any w v l0) (h1 : OpsIn Any w u l) (k0 : Hand w l0) (k1 : Hand w l) (ht : Lib.TabIs Tryd.prog w "internal/strconv.uint64pow10" .u64 Lib.pow10Tab) :
    Calls Tryd.prog 3 #[v, u] w fun e w' => e = .returned (.bool true) ∧ Below w.heap.size w w' := by
  have L0 := hid (ops_low h0)
  have L1 := hid (ops_low h1)
  have K0 := hid k0
  have K1 := hid k1
  have HTB : Hid (Pow w.heap.size w) := Lib.tabBelow_of_tabIs ht
  obtain ⟨va, vc, hvv, -⟩ := id h0
  obtain ⟨ua, uc, huv, -⟩ := id h1
  subst hvv huv
  have hln := k0.len
  have hlm := k1.len
  clear h0 h1 ht k0 k1
  go_enter Tryd.func3, Tryd.ntmps3
  go_wp2_with fail
  refine (behind_is w _ l0 (L0.out.keep (fun _ _ _ => rfl) (fun _ _ _ => trivial)) (fun o ho => (K0.out.ok o ho).2) hln).mono ?_
  rintro e w1 ⟨sb, lb, rb, F, xb, xv, P, rfl, p1, b1⟩
  have P1 := hid p1
  have B1 := hid b1
  clear p1 b1
  go_wp2_with fail
  refine (behind_is w1 _ l (L1.out.keep (fun b hb _ => B1.out.block b hb) (fun _ _ _ => trivial)) (fun o ho => (K1.out.ok o ho).2) hlm).mono ?_
  rintro e w2 ⟨tb, lt, rt, G, yb, yv, Q, rfl, p2, b2⟩
  have B2 : Hid (Below w.heap.size w w2) := B1.out.trans (b2.mono B1.out.size)
  have P1' : Hid (Pr w.heap.size w2 sb lb rb F xb xv (2 * l0.length) (stM [] l0 l0.length) P) := P1.out.later b2
  have z1 := B1.out.size
  have SS : Hid (∀ V, Below w2.heap.size w2 V → St w.heap.size V sb lb rb F (2 * l0.length) (stM [] l0 l0.length)) := fun V hV => P1'.out.st.later hV
  have ST : Hid (∀ V, Below w2.heap.size w2 V → St w.heap.size V tb lt rt G (2 * l.length) (stM [] l l.length)) := fun V hV => (p2.st.down z1).later hV
  have RX : Hid (∀ V, Below w2.heap.size w2 V → Rst w.heap.size V xb xv (stM [] l0 l0.length)) := fun V hV => P1'.out.rs.later hV
  have RY : Hid (∀ V, Below w2.heap.size w2 V → Rst w.heap.size V yb yv (stM [] l l.length)) := fun V hV => (p2.rs.down z1).later hV
  clear p2 b2 P1 P1'
  obtain ⟨Z, hZ⟩ : ∃ Z, stM [] l0 l0.length = Z := ⟨_, rfl⟩
  obtain ⟨Y, hY⟩ : ∃ Y, stM [] l l.length = Y := ⟨_, rfl⟩
  have OZ : Hid (OkV Z) := by show OkV Z; rw [← hZ]; exact st_ok (fun o ho => by cases ho) K0.out.ok _
  have OY : Hid (OkV Y) := by show OkV Y; rw [← hY]; exact st_ok (fun o ho => by cases ho) K1.out.ok _
  have CZ : Hid (costs Z ≤ 1099511627776) := by
    show _ ≤ _
    rw [← hZ]
    have h1 := st_costs [] l0 l0.length
    have h2 := K0.out.cost
    have h3 : costs [] = 0 := rfl
    omega
  have CY : Hid (costs Y ≤ 1099511627776) := by
    show _ ≤ _
    rw [← hY]
    have h1 := st_costs [] l l.length
    have h2 := K1.out.cost
    have h3 : costs [] = 0 := rfl
    omega
  have LZ : Hid (Z.length ≤ 1048576) := by
    show _ ≤ _
    rw [← hZ]
    have h1 := st_len [] l0 l0.length
    simp only [List.length_nil] at h1
    omega
  have LY : Hid (Y.length ≤ 1048576) := by
    show _ ≤ _
    rw [← hY]
    have h1 := st_len [] l l.length
    simp only [List.length_nil] at h1
    omega
  rw [hZ] at SS RX
  rw [hY] at ST RY
  clear hZ hY
  go_wp2_with fail
  refine (text_of w.heap.size w w2 sb lb rb F _ Z (SS.out w2 (Below.refl _ _)) OZ.out (by have := CZ.out; omega) (by omega) HTB.out B2.out).mono ?_
  rintro e w3 ⟨T1, rfl, hT1, b3⟩
  have HT1 := hid hT1
  have B3 := hid b3
  have BB3 : Hid (Below w.heap.size w w3) := B2.out.trans (b3.mono B2.out.size)
  clear hT1 b3
  go_wp2_with fail
  refine (text_of w.heap.size w w3 tb lt rt G _ Y (ST.out w3 B3.out) OY.out (by have := CY.out; omega) (by omega) HTB.out BB3.out).mono ?_
  rintro e w4 ⟨T2, rfl, hT2, b4⟩
  have HT2 := hid hT2
  have B4 : Hid (Below w2.heap.size w2 w4) := B3.out.trans (b4.mono B3.out.size)
  have BB4 : Hid (Below w.heap.size w w4) := B2.out.trans (B4.out.mono B2.out.size)
  clear hT2 b4
  have hbe := ba_eq T1 T2
  obtain ⟨d, hd⟩ : ∃ d, decide (T1 = T2) = d := ⟨_, rfl⟩
  rw [hd] at hbe
  have HD := hid hd
  clear hd
  go_wp2_with fail
  refine (same_is w.heap.size w4 xb yb xv yv Z Y (RX.out w4 B4.out) (RY.out w4 B4.out) BB4.out.size LZ.out LY.out).mono ?_
  rintro e w5 ⟨b, rfl, hb, b5⟩
  have hdb : d = b := by rw [← HD.out]; exact text_same HT1.out HT2.out hb
  have B5 : Hid (Below w2.heap.size w2 w5) := B4.out.trans (b5.mono B4.out.size)
  have BB5 : Hid (Below w.heap.size w w5) := B2.out.trans (B5.out.mono B2.out.size)
  clear hb b5
  subst hdb
  clear HD
  have hbb : (d == d) = true := by simp
  go_wp2_with fail
  refine (text_of w.heap.size w w5 sb lb rb F _ Z (SS.out w5 B5.out) OZ.out (by have := CZ.out; omega) (by omega) HTB.out BB5.out).mono ?_
  rintro e w6 ⟨T3, rfl, hT3, b6⟩
  obtain rfl : T3 = T1 := hT3.uniq HT1.out
  have B6 : Hid (Below w2.heap.size w2 w6) := B5.out.trans (b6.mono B5.out.size)
  have BB6 : Hid (Below w.heap.size w w6) := B2.out.trans (B6.out.mono B2.out.size)
  clear hT3 b6
  go_wp2_with fail
  refine (copy_is w.heap.size w6 sb lb rb F _ Z (SS.out w6 B6.out) (by unfold maxLen; omega) (fun s => by have h1 := lst_len Z s; have h2 := LZ.out; omega) (fun o ho => by have := (OZ.out o ho).2; unfold maxLen; omega)).mono ?_
  rintro e w7 ⟨cb, lb2, rb2, rfl, s7, b7⟩
  have S7 := hid s7
  have BB7 : Hid (Below w.heap.size w w7) := BB6.out.trans (b7.mono BB6.out.size)
  clear s7 b7
  go_wp2_with fail
  refine (text_of _ w w7 cb lb2 rb2 _ _ Z S7.out OZ.out (by have := CZ.out; omega) (by omega) HTB.out BB7.out).mono ?_
  rintro e w8 ⟨T4, rfl, hT4, b8⟩
  obtain rfl : T4 = T3 := hT4.uniq HT1.out
  have BB8 : Hid (Below w.heap.size w w8) := BB7.out.trans (b8.mono BB7.out.size)
  clear hT4 b8
  have hbe2 : ((ba T4).toList == (ba T4).toList) = true := by simp
  go_wp2_with fail
  go_ret
  exact ⟨rfl, BB8.out⟩
end Go.Proofs.YtjeheknhpfkaiaaDoor
