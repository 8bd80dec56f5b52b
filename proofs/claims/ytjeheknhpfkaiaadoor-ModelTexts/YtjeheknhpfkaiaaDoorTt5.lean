/-
  The law ModelJoins.
-/
import Derived.Test.YtjeheknhpfkaiaaDoorTt4
namespace Go.Proofs.YtjeheknhpfkaiaaDoor
set_option linter.unusedVariables false
set_option linter.unusedSimpArgs false
open Go.RowKit Go.Lib

theorem ba_eq (a b : Bs) : ((ba a).toList == (ba b).toList) = decide (a = b) := by
  rw [key_beq']
  by_cases h : a = b
  · simp [h]
  · have : ba a ≠ ba b := fun c => h (ba_inj c)
    simp [h, this]
/-- What the law is handed. -/
structure Hand (w : World) (l : List MOp) : Prop where
  ok : OkV l
  len : l.length ≤ 1048576
  cost : costs l ≤ 1099511627776
theorem bool_iff {a b : Bool} (h : a = true ↔ b = true) : a = b := by
  cases a <;> cases b <;> simp at h <;> rfl
/-- The text of L. -/
def Tx0 (L : List MOp) (T : Bs) : Prop := ∃ ks rs, IsText (lstM L) (regM L) ks rs ∧ T = txtM (lstM L) (regM L) ks rs
theorem Tx0.uniq {L : List MOp} {T T' : Bs} (h : Tx0 L T) (h' : Tx0 L T') : T = T' := by
  obtain ⟨ks, rs, h1, rfl⟩ := h
  obtain ⟨ks', rs', h2, rfl⟩ := h'
  exact h1.same h2 (fun _ => rfl) (fun _ => rfl)
theorem Tx0.back {L L' : List MOp} {T : Bs} (h : Tx0 L T) (h' : Tx0 L' T) : (∀ s, lstM L s = lstM L' s) ∧ ∀ s, regM L s = regM L' s := by
  obtain ⟨ks, rs, h1, rfl⟩ := h
  obtain ⟨ks', rs', h2, e⟩ := h'
  exact h1.back h2 e
theorem Tx0.same {L L' : List MOp} {T T' : Bs} (h : Tx0 L T) (h' : Tx0 L' T') (hL : ∀ s, lstM L s = lstM L' s) (hR : ∀ s, regM L s = regM L' s) : T = T' := by
  obtain ⟨ks, rs, h1, rfl⟩ := h
  obtain ⟨ks', rs', h2, rfl⟩ := h'
  exact h1.same h2 hL hR
theorem text_of (B : Nat) (w W : World) (sb lb rb : Nat) (F : Nat → Prop) (n : Nat) (L : List MOp) (h : St B W sb lb rb F n L) (hv : OkV L) (hc : costs L ≤ 140737488355328) (hn : n ≤ 8796093022208) (ht : Pow w.heap.size w) (hb : Below w.heap.size w W) :
    Calls Tryd.prog 6 #[.pointer (some ⟨sb, 0, none⟩)] W fun e W' => ∃ T, e = .returned (.string (ba T)) ∧ Tx0 L T ∧ Below W.heap.size W W' :=
  (text_is B W sb lb rb F n L h hv hc hn (ht _ hb)).mono fun e W' ⟨ks, rs, h1, h2, h3⟩ => ⟨_, h2, ⟨ks, rs, h1, rfl⟩, h3⟩
/-- Two states and one of the document's. -/
structure Tr (w W : World) (sb lb rb tb lt rt xb : Nat) (xv : Value) (Fa GT : Nat → Prop) (n m : Nat) (LS LT Z : List MOp) : Prop where
  s : St w.heap.size W sb lb rb Fa n LS
  t : St w.heap.size W tb lt rt GT m LT
  x : Rst w.heap.size W xb xv Z
  dj : ∀ b, Fa b → ¬ GT b
  xs : ¬ Fa xb ∧ ¬ GT xb
  xg : ∀ g, xv.ownBlock = some g → ¬ Fa g ∧ ¬ GT g
  be : Below w.heap.size w W
  xl : w.heap.size ≤ xb
section
variable {w W W' : World} {sb lb rb tb lt rt xb : Nat} {xv : Value} {Fa GT : Nat → Prop} {n m n' : Nat} {LS LT Z L' : List MOp}
theorem Tr.later (h : Tr w W sb lb rb tb lt rt xb xv Fa GT n m LS LT Z) (hb : Below W.heap.size W W') : Tr w W' sb lb rb tb lt rt xb xv Fa GT n m LS LT Z :=
  ⟨h.s.later hb, h.t.later hb, h.x.later hb, h.dj, h.xs, h.xg, h.be.trans (hb.mono h.be.size), h.xl⟩
theorem Tr.stepS (h : Tr w W sb lb rb tb lt rt xb xv Fa GT n m LS LT Z) (hs : St w.heap.size W' sb lb rb (wide Fa W W') n' L') (hg : Gro Fa W W') : Tr w W' sb lb rb tb lt rt xb xv (wide Fa W W') GT n' m L' LT Z := by
  refine ⟨hs, h.t.keep hg (fun b hb c => h.dj b c hb), h.x.keep (hg.block xb h.x.lt h.xs.1) (fun g e => hg.block g (h.x.olt e).2 (h.xg g e).1), fun b hb c => ?_, ⟨fun c => ?_, h.xs.2⟩, fun g e => ⟨fun c => ?_, (h.xg g e).2⟩, h.be.trans (hg.below h.be.size (fun i hi c => by have := (h.s.flt i c).1; omega)), h.xl⟩
  · rcases hb with q | q
    · exact h.dj b q c
    · have := (h.t.flt b c).2; omega
  · rcases c with q | q
    · exact h.xs.1 q
    · have := h.x.lt; omega
  · rcases c with q | q
    · exact (h.xg g e).1 q
    · have := (h.x.olt e).2; omega
theorem Tr.swap (h : Tr w W sb lb rb tb lt rt xb xv Fa GT n m LS LT Z) : Tr w W tb lt rt sb lb rb xb xv GT Fa m n LT LS Z :=
  ⟨h.t, h.s, h.x, fun b hb c => h.dj b c hb, ⟨h.xs.2, h.xs.1⟩, fun g e => ⟨(h.xg g e).2, (h.xg g e).1⟩, h.be, h.xl⟩
theorem Tr.applied (h : Tr w W sb lb rb tb lt rt xb xv Fa GT n m LS LT Z) (l : List MOp) (v : Value) (hl : OpsIn (fun b => b < w.heap.size) w v l) (hk : OkV l) (hln : l.length ≤ 1048576) (hLS : LS.length ≤ 16777216) (hn : n ≤ 16777216) :
    Calls Tryd.prog 9 #[.pointer (some ⟨sb, 0, none⟩), v, .bool false] W fun e W' => ∃ b Fa', e = .returned (.bool b) ∧ (b = true ↔ okM LS l false) ∧ Tr w W' sb lb rb tb lt rt xb xv Fa' GT (n + 2 * l.length) m (if b = true then stM LS l l.length else LS) LT Z :=
  (apply_is w.heap.size W sb lb rb Fa n LS l v false h.s h.be.size (hl.keep (fun b hb _ => h.be.block b hb) (fun b _ hb c => by have := (h.s.flt b c).1; omega)) (fun o ho => (hk o ho).2) (by unfold maxLen; omega) (fun i hi => by have h1 := lst_len (stM LS l i) (l.getD i default).key; have h2 := st_len LS l i; omega)).mono fun e W' ⟨b, h1, h2, h3, h4⟩ => ⟨b, _, h1, h2, h.stepS h3 h4⟩
theorem Tr.texted (h : Tr w W sb lb rb tb lt rt xb xv Fa GT n m LS LT Z) (hk : OkV LS) (hc : costs LS ≤ 140737488355328) (hn : n ≤ 16777216) (ht : Pow w.heap.size w) :
    Calls Tryd.prog 6 #[.pointer (some ⟨sb, 0, none⟩)] W fun e W' => ∃ T, e = .returned (.string (ba T)) ∧ Tx0 LS T ∧ Tr w W' sb lb rb tb lt rt xb xv Fa GT n m LS LT Z :=
  (text_of w.heap.size w W sb lb rb Fa n LS h.s hk hc (by omega) ht h.be).mono fun e W' ⟨T, h1, h2, h3⟩ => ⟨T, h1, h2, h.later h3⟩
end
set_option maxHeartbeats 4000000 in
set_option maxRecDepth 100000 in
theorem joins_walk (v u : Value) (l0 l : List MOp) (n0 : Int) (w : World) (h0 : OpsIn Any w v l0) (h1 : OpsIn Any w u l) (k0 : Hand w l0) (k1 : Hand w l) (ht : Lib.TabIs Tryd.prog w "internal/strconv.uint64pow10" .u64 Lib.pow10Tab) :
    Calls Tryd.prog 4 #[v, u, .int .i64 n0] w fun e w' => e = .returned (.bool true) ∧ Below w.heap.size w w' := by
  have L0 := hid (ops_low h0)
  have L1 := hid (ops_low h1)
  have K0 := hid k0
  have K1 := hid k1
  have HTB : Hid (Pow w.heap.size w) := Lib.tabBelow_of_tabIs ht
  obtain ⟨va, vc, hvv, -⟩ := id h0
  obtain ⟨ua, uc, huv, ⟨-, hcap⟩, -⟩ := id h1
  subst hvv huv
  have hln := k0.len
  have hli : (l.length : Int) ≤ 1048576 := by have := k1.len; omega
  have hci : (l.length : Int) ≤ uc := by omega
  obtain ⟨N, hN, hD0⟩ := u64_mod n0 (l.length + 1) (by omega) (by omega)
  have hD : wrap64 ((IntKind.u64.wrap n0).tmod ((l.length : Int) + 1)) = (N : Int) := by
    have e : ((l.length + 1 : Nat) : Int) = (l.length : Int) + 1 := by omega
    rw [e] at hD0
    exact hD0
  have hNc : (N : Int) ≤ uc := by omega
  have hNl : (N : Int) ≤ l.length := by omega
  clear hD0 h0 h1 ht k0 k1
  go_enter Tryd.func4, Tryd.ntmps4
  go_wp2_with fail
  refine (behind_is w _ l0 (L0.out.keep (fun _ _ _ => rfl) (fun _ _ _ => trivial)) (fun o ho => (K0.out.ok o ho).2) hln).mono ?_
  rintro e w1 ⟨sb, lb, rb, F, xb, xv, P, rfl, p1, b1⟩
  have P1 := hid p1
  have B1 := hid b1
  clear p1 b1
  go_wp2_with fail
  refine (behind_is w1 _ l0 (L0.out.keep (fun b hb _ => B1.out.block b hb) (fun _ _ _ => trivial)) (fun o ho => (K0.out.ok o ho).2) hln).mono ?_
  rintro e w2 ⟨tb, lt, rt, G, yb, yv, Q, rfl, p2, b2⟩
  have P2 := hid p2
  have B2 : Hid (Below w.heap.size w w2) := B1.out.trans (b2.mono B1.out.size)
  have P1' : Hid (Pr w.heap.size w2 sb lb rb F xb xv (2 * l0.length) (stM [] l0 l0.length) P) := P1.out.later b2
  have DJ : Hid (∀ b, P b → ¬ Q b) := fun b hb c => by have h1 := (P1.out.lt b hb).2; have h2 := (P2.out.lt b c).1; omega
  clear p2 b2
  obtain ⟨Z, hZ⟩ : ∃ Z, stM [] l0 l0.length = Z := ⟨_, rfl⟩
  have OZ : Hid (OkV Z) := by show OkV Z; rw [← hZ]; exact st_ok (fun o ho => by cases ho) K0.out.ok _
  have CZ : Hid (costs Z ≤ 1099511627776) := by
    show _ ≤ _
    rw [← hZ]
    have h1 := st_costs [] l0 l0.length
    have h2 := K0.out.cost
    have h3 : costs [] = 0 := rfl
    omega
  have LZ : Hid (Z.length ≤ 1048576) := by
    show _ ≤ _
    rw [← hZ]
    have h1 := st_len [] l0 l0.length
    have h2 := K0.out.len
    simp only [List.length_nil] at h1
    omega
  rw [hZ] at P2 P1'
  have TR : Hid (Tr w w2 sb lb rb tb lt rt xb xv F G (2 * l0.length) (2 * l0.length) Z Z Z) := ⟨P1'.out.st, P2.out.st.down B1.out.size, P1'.out.rs, fun b hb c => DJ.out b (P1'.out.pf b hb) (P2.out.pf b c), ⟨P1'.out.fx, fun c => DJ.out xb P1'.out.px (P2.out.pf xb c)⟩, fun g e => ⟨(P1'.out.fv g e).1, fun c => DJ.out g (P1'.out.pv g e) (P2.out.pf g c)⟩, B2.out, (P1'.out.lt xb P1'.out.px).1⟩
  clear hZ P1 P1' P2 DJ B1 B2
  have CL := hid K1.out.cost
  go_wp2_with fail
  refine (TR.out.texted OZ.out (by have := CZ.out; omega) (by omega) HTB.out).mono ?_
  rintro e w3 ⟨T, rfl, hT, t3⟩
  have HT := hid hT
  have T3 := hid t3
  clear hT t3 TR
  go_wp2_with fail
  have LTN : Hid ((l.take N).length = N) := by show _ = _; rw [List.length_take]; omega
  refine (T3.out.applied (l.take N) _ (ops_take L1.out N (by omega)) (fun o ho => K1.out.ok o (List.mem_of_mem_take ho)) (by rw [LTN.out]; omega) (by have := LZ.out; omega) (by omega)).mono ?_
  rintro e w4 ⟨b4, F4, rfl, hb4, t4⟩
  have T4 := hid t4
  have HB4 := hid hb4
  clear t4 hb4 T3
  have HPT := hid (ok_part Z l N (by omega))
  have hN2 : N ≤ 1048576 := by omega
  cases b4 with
  | false =>
    have T5 : Hid (Tr w w4 sb lb rb tb lt rt xb xv F4 G (2 * l0.length + 2 * N) (2 * l0.length) Z Z Z) := by
      have q := T4.out
      rw [LTN.out] at q
      exact q
    clear T4
    have HNO : Hid (¬ okM Z l false) := fun c => by
      have := HB4.out.2 (HPT.out.1 c).1
      cases this
    go_wp2_with fail
    refine (T5.out.texted OZ.out (by have := CZ.out; omega) (by omega) HTB.out).mono ?_
    rintro e w5 ⟨T', rfl, hT', t5⟩
    obtain rfl : T' = T := hT'.uniq HT.out
    have T6 := hid t5
    clear hT' t5 T5
    have hbe : ((ba T').toList == (ba T').toList) = true := by simp
    go_wp2_with fail
    refine (T6.out.swap.applied l _ L1.out K1.out.ok (by omega) (by have := LZ.out; omega) (by omega)).mono ?_
    rintro e w6 ⟨b6, F6, rfl, hb6, t6⟩
    obtain rfl : b6 = false := by
      cases b6 with
      | false => rfl
      | true => exact absurd (hb6.1 rfl) HNO.out
    have T7 : Hid (Tr w w6 tb lt rt sb lb rb xb xv F6 F4 (2 * l0.length + 2 * l.length) (2 * l0.length + 2 * N) Z Z Z) := t6
    clear t6 hb6 T6
    go_wp2_with fail
    refine (T7.out.texted OZ.out (by have := CZ.out; omega) (by omega) HTB.out).mono ?_
    rintro e w7 ⟨T2, rfl, hT2, t7⟩
    obtain rfl : T2 = T' := hT2.uniq HT.out
    have T8 := hid t7
    clear hT2 t7 T7
    go_wp2_with fail
    go_ret
    exact ⟨rfl, T8.out.be⟩
  | true =>
    obtain ⟨Z1, hZ1⟩ : ∃ Z1, stM Z (l.take N) (l.take N).length = Z1 := ⟨_, rfl⟩
    have HZ1 := hid hZ1
    have OZ1 : Hid (OkV Z1) := by show OkV Z1; rw [← hZ1]; exact st_ok OZ.out (fun o ho => K1.out.ok o (List.mem_of_mem_take ho)) _
    have CZ1 : Hid (costs Z1 ≤ 2199023255552) := by
      show _ ≤ _
      rw [← hZ1]
      have h1 := st_costs Z (l.take N) (l.take N).length
      have h2 := CZ.out
      have h3 := costs_take l N
      have h4 := K1.out.cost
      omega
    have LZ1 : Hid (Z1.length ≤ 2097152) := by
      show _ ≤ _
      rw [← hZ1]
      have h1 := st_len Z (l.take N) (l.take N).length
      have h2 := LZ.out
      rw [LTN.out] at h1
      rw [LTN.out]
      omega
    have T5 : Hid (Tr w w4 sb lb rb tb lt rt xb xv F4 G (2 * l0.length + 2 * N) (2 * l0.length) Z1 Z Z) := by
      have q := T4.out
      rw [if_pos rfl, hZ1, LTN.out] at q
      exact q
    rw [hZ1] at HPT
    clear T4 hZ1
    have LD : Hid ((l.drop N).length = l.length - N) := List.length_drop
    have DA : Hid (l.length ≤ N → ∀ c, OpsIn (fun b => b < w.heap.size) w (.slice ua (l.length - N) c) (l.drop N)) := fun hle c => by
      have e1 : l.drop N = [] := List.drop_of_length_le hle
      have e2 : l.length - N = 0 := by omega
      rw [e1, e2]
      exact ops_nil
    have DB : Hid (OpsIn (fun b => b < w.heap.size) w (.slice (ua.map (fun x => x.add (N * 6))) (l.length - N) (uc - N)) (l.drop N)) := by
      by_cases hz : l.length = 0
      · have e1 : l.drop N = [] := List.drop_of_length_le (by omega)
        have e2 : l.length - N = 0 := by omega
        rw [e1, e2]
        exact ops_nil
      · obtain ⟨ua', uc', e, _, hc⟩ := L1.out
        injection e with e1 e2 e3
        subst e1 e3
        obtain ⟨b, off, e1, _, _⟩ := hc (by omega)
        subst e1
        have q := ops_drop L1.out N (by omega)
        show OpsIn (fun b => b < w.heap.size) w (.slice (some (Addr.add ⟨b, off, none⟩ (N * 6))) (l.length - N) (uc - N)) (l.drop N)
        rw [Addr.add_lit]
        exact q
    have HOZ : Hid (OkV (stM Z l l.length)) := st_ok OZ.out K1.out.ok _
    have HCZ : Hid (costs (stM Z l l.length) ≤ 2199023255552) := by
      have h1 := st_costs Z l l.length
      have h2 := CZ.out
      have h4 := K1.out.cost
      show _ ≤ _
      omega
    have HSP : Hid (stM Z1 (l.drop N) (l.drop N).length = stM Z l l.length) := by
      have q := st_part Z l N (l.drop N).length (by omega)
      rw [HZ1.out] at q
      have e : N + (l.drop N).length = l.length := by rw [LD.out]; omega
      rw [e] at q
      exact q
    clear HZ1
    go_wp2_with fail
    all_goals
      first | (have huc : N = uc := by omega
               subst huc) | skip
      refine (T5.out.applied (l.drop _) _ (by first | exact DA.out (by omega) _ | exact DB.out) (fun o ho => K1.out.ok o (List.mem_of_mem_drop ho)) (by rw [LD.out]; omega) (by have := LZ1.out; omega) (by omega)).mono ?_
      rintro e w6 ⟨b6, F6, rfl, hb6, t6⟩
      have HB6 := hid hb6
      have T6 := hid t6
      clear hb6 t6
      go_wp2_with fail
      refine (T6.out.swap.applied l _ L1.out K1.out.ok (by omega) (by have := LZ.out; omega) (by omega)).mono ?_
      rintro e w7 ⟨b7, F7, rfl, hb7, t7⟩
      obtain rfl : b7 = b6 := by
        have q : b7 = true ↔ b6 = true := by
          rw [hb7, HPT.out, HB6.out]
          exact ⟨fun x => x.2, fun x => ⟨HB4.out.1 (by trivial), x⟩⟩
        exact bool_iff q
      have HB7 := hid hb7
      have T7 := hid t7
      clear hb7 t7 T6
      cases b7 with
      | false =>
        have T8 : Hid (Tr w w7 tb lt rt sb lb rb xb xv F7 F6 (2 * l0.length + 2 * l.length) (2 * l0.length + 2 * N + 2 * (l.drop N).length) Z Z1 Z) := T7.out
        clear T7
        go_wp2_with fail
        refine (T8.out.texted OZ.out (by have := CZ.out; omega) (by omega) HTB.out).mono ?_
        rintro e w8 ⟨T2, rfl, hT2, t8⟩
        obtain rfl : T2 = T := hT2.uniq HT.out
        have T9 := hid t8
        clear hT2 t8 T8
        have hbe : ((ba T2).toList == (ba T2).toList) = true := by simp
        go_wp2_with fail
        go_ret
        exact ⟨rfl, T9.out.be⟩
      | true =>
        have T8 : Hid (Tr w w7 sb lb rb tb lt rt xb xv F6 F7 (2 * l0.length + 2 * N + 2 * (l.drop N).length) (2 * l0.length + 2 * l.length) (stM Z l l.length) (stM Z l l.length) Z) := by
          have q := T7.out.swap
          rw [if_pos rfl, if_pos rfl, HSP.out] at q
          exact q
        clear T7
        have hld : (l.drop N).length ≤ 1048576 := by rw [LD.out]; omega
        go_wp2_with fail
        refine (T8.out.texted HOZ.out (by have := HCZ.out; omega) (by omega) HTB.out).mono ?_
        rintro e w8 ⟨T2, rfl, hT2, t8⟩
        have HT2 := hid hT2
        have T9 := hid t8
        clear hT2 t8 T8
        go_wp2_with fail
        refine (T9.out.swap.texted HOZ.out (by have := HCZ.out; omega) (by omega) HTB.out).mono ?_
        rintro e w9 ⟨T3, rfl, hT3, t9⟩
        obtain rfl : T3 = T2 := hT3.uniq HT2.out
        have T10 := hid t9
        clear hT3 t9 T9
        have hbe : ((ba T3).toList == (ba T3).toList) = true := by simp
        go_wp2_with fail
        refine (rapply_is w.heap.size w9 xb xv Z l _ false T10.out.x T10.out.be.size (L1.out.keep (fun b hb _ => T10.out.be.block b hb) (fun _ _ _ => trivial)) (by have := LZ.out; omega)).mono ?_
        rintro e w10 ⟨bx, xv', rfl, hbx, _, _, gx⟩
        obtain rfl : bx = true := hbx.2 (HB7.out.1 (by trivial))
        have BX : Hid (Below w.heap.size w w10) := T10.out.be.trans (gx.below T10.out.be.size (fun i hi c => by
          have h1 : i = xb := c
          have h2 := T10.out.xl
          omega))
        clear hbx gx
        go_wp2_with fail
        go_ret
        exact ⟨rfl, BX.out⟩
end Go.Proofs.YtjeheknhpfkaiaaDoor
