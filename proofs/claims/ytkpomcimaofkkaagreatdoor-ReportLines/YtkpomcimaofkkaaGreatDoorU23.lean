/-
  report.Parse: a text's report, or the fault.
  The document's reader of a report's text: its box; whether a token is next; taking it.
-/
import Derived.Test.YtkpomcimaofkkaaGreatDoorU22
namespace Go.Proofs.YtkpomcimaofkkaaGreatDoor.Rp
set_option linter.unusedVariables false
set_option linter.unusedSimpArgs false
open Go.RowKit Go.Lib

/-- A text's report, or the fault: where, and its number. -/
def parseQ (s : ByteArray) : Except (Int × Int) MR := match scanM s with
  | .error (a, y) => .error ((a : Int), (y : Int))
  | .ok T => match qRep T with
    | none => .error (0, 210)
    | some z => if canR z.1 then .ok z.1 else .error (0, 210)
theorem parseQ_err {s : ByteArray} {a y : Nat} (h : scanM s = .error (a, y)) : parseQ s = .error ((a : Int), (y : Int)) := by unfold parseQ; rw [h]
theorem parseQ_none {s : ByteArray} {T : List MTok} (h : scanM s = .ok T) (h2 : qRep T = none) : parseQ s = .error (0, 210) := by unfold parseQ; rw [h]; dsimp only; rw [h2]
theorem parseQ_no {s : ByteArray} {T : List MTok} {z : MR × List MTok} (h : scanM s = .ok T) (h2 : qRep T = some z) (h3 : canR z.1 = false) : parseQ s = .error (0, 210) := by unfold parseQ; rw [h]; dsimp only; rw [h2]; dsimp only; rw [h3]; rfl
theorem parseQ_yes {s : ByteArray} {T : List MTok} {z : MR × List MTok} (h : scanM s = .ok T) (h2 : qRep T = some z) (h3 : canR z.1 = true) : parseQ s = .ok z.1 := by unfold parseQ; rw [h]; dsimp only; rw [h2]; dsimp only; rw [h3]; rfl
/-- What Parse answers. -/
def ParseR (w : World) (r : Except (Int × Int) MR) (e : Ending) (w' : World) : Prop := match r with
  | .ok x => ∃ v, e = .returned (.tuple #[v, .nilIface]) ∧ RepV (fun b => w.heap.size ≤ b) w' v x
  | .error f => e = .returned (.tuple #[.agg zRep, .iface 49 (.agg #[.int .i64 f.1, .int .i64 f.2])])
theorem left_of_toks {B : Nat} {w : World} {v : Value} {l : List MTok} {S : Nat → Prop} (h : ToksIn S w v l) (hr : Roomy v) (hB : w.heap.size ≤ B) : LeftQ B w v l := by
  obtain ⟨ao, c, hv, hl, hc⟩ := h
  obtain ⟨a', n', c', hv', hn⟩ := hr
  rw [hv] at hv'
  simp only [Value.slice.injEq] at hv'
  obtain ⟨_, h2, h3⟩ := hv'
  refine ⟨ao, c, hv, by omega, fun h0 => ?_⟩
  obtain ⟨b, off, ha, hS, hj⟩ := hc h0
  refine ⟨b, off, ha, ?_, fun j hjl i u hi => ?_⟩
  · obtain ⟨cs, h1, h2, h3⟩ := hj 0 h0
    exact Nat.lt_of_lt_of_le (World.block_lt_of_cell? _ _ (h3 0 cs[0] (List.getElem?_eq_getElem (by omega)))) hB
  · obtain ⟨cs, h1, h2, h3⟩ := hj j hjl
    have h2' : cs = tkC (l.getD j default) := h2
    subst h2'
    exact h3 i u hi
theorem scanFrom_len {s : ByteArray} : ∀ (f i : Nat) (acc l : List MTok), scanFrom s f i acc = .ok l → l.length ≤ acc.length + f
  | 0, i, acc, l, h => by cases h; omega
  | f + 1, i, acc, l, h => by
    unfold scanFrom at h
    split at h
    · split at h
      · have := scanFrom_len f _ _ _ h; omega
      · split at h
        · cases h
        · have := scanFrom_len f _ _ _ h; simp at this; omega
    · cases h; omega
theorem scanM_few {s : ByteArray} {l : List MTok} (h : scanM s = .ok l) : l.length ≤ 20000 ∧ s.size ≤ 20000 := by
  unfold scanM at h
  split at h
  · cases h
  · rename_i hs
    have := scanFrom_len _ _ _ _ h
    simp at this
    omega
theorem box_put6 {w : World} {o : Nat} {t : TypeId} {a b c d e f a' b' c' d' e' f' : Value} (h : BoxW w o t #[a, b, c, d, e, f]) : BoxW ((((((w.setCell ⟨o, 0, none⟩ a').setCell ⟨o, 1, none⟩ b').setCell ⟨o, 2, none⟩ c').setCell ⟨o, 3, none⟩ d').setCell ⟨o, 4, none⟩ e').setCell ⟨o, 5, none⟩ f') o t #[a', b', c', d', e', f'] :=
  (((((h.set (i := 0) (u := a') (cs' := #[a', b, c, d, e, f]) rfl).set (i := 1) (u := b') (cs' := #[a', b', c, d, e, f]) rfl).set (i := 2) (u := c') (cs' := #[a', b', c', d, e, f]) rfl).set (i := 3) (u := d') (cs' := #[a', b', c', d', e, f]) rfl).set (i := 4) (u := e') (cs' := #[a', b', c', d', e', f]) rfl).set (i := 5) (u := f') rfl
theorem box_oth6 {w : World} {o g : Nat} {t : TypeId} {cs : Array Value} {a b c d e f : Value} (h : BoxW w o t cs) (hn : o ≠ g) : BoxW ((((((w.setCell ⟨g, 0, none⟩ a).setCell ⟨g, 1, none⟩ b).setCell ⟨g, 2, none⟩ c).setCell ⟨g, 3, none⟩ d).setCell ⟨g, 4, none⟩ e).setCell ⟨g, 5, none⟩ f) o t cs :=
  (((((h.other hn).other hn).other hn).other hn).other hn).other hn
theorem below_put6 {B : Nat} {w w' : World} {o : Nat} {a b c d e f : Value} (h : Below B w w') (hB : B ≤ o) : Below B w ((((((w'.setCell ⟨o, 0, none⟩ a).setCell ⟨o, 1, none⟩ b).setCell ⟨o, 2, none⟩ c).setCell ⟨o, 3, none⟩ d).setCell ⟨o, 4, none⟩ e).setCell ⟨o, 5, none⟩ f) :=
  (((((h.setCell (p := ⟨o, 0, none⟩) hB _).setCell (p := ⟨o, 1, none⟩) hB _).setCell (p := ⟨o, 2, none⟩) hB _).setCell (p := ⟨o, 3, none⟩) hB _).setCell (p := ⟨o, 4, none⟩) hB _).setCell (p := ⟨o, 5, none⟩) hB _
theorem RepV.keep {S T : Nat → Prop} {w w' : World} {v : Value} {r : MR} (h : RepV S w v r) (hk : KeepsIn S w w') (hT : ∀ b, b < w.heap.size → S b → T b) : RepV T w' v r := by
  obtain ⟨aa, ac, oa, oc, hv, h1, h2⟩ := h
  exact ⟨aa, ac, oa, oc, hv, h1.keep hk hT, h2.keep hk hT⟩
/-- The whole of the end where a fault was caught. -/
theorem caught_end {pl pe rb : Nat} {w w1 w2 w3 : World} (h1 : Below w.heap.size w w1) (h2 : ∀ b, b < w.heap.size → w2.heap[b]? = w1.heap[b]?) (hs2 : w1.heap.size ≤ w2.heap.size) (ho : w2.os = w1.os) (ht : w2.tape = w1.tape) (hp : w2.output = w1.output) (hpl : w.heap.size ≤ pl) (hpe : w.heap.size ≤ pe) (hsz : w2.heap.size ≤ w3.heap.size)
    (hb : ∀ b, b < w2.heap.size → b ≠ pl → b ≠ pe → w3.heap[b]? = w2.heap[b]?) (o1 : w3.os = w2.os) (o2 : w3.tape = w2.tape) (o3 : w3.output = w2.output) : Below w.heap.size w w3 :=
  ⟨o1.trans (ho.trans h1.os), o2.trans (ht.trans h1.tape), o3.trans (hp.trans h1.output), by have := h1.size; omega, fun b hlt => (hb b (by have := h1.size; omega) (by omega) (by omega)).trans ((h2 b hlt).trans (h1.block b hlt))⟩
set_option maxHeartbeats 16000000 in
set_option maxRecDepth 100000 in
theorem parse_is (s : ByteArray) (w : World) (te : TypeId) (pe : Value) (hv : w.cell? ⟨6, 0, none⟩ = some (.iface te pe)) (hN : NamesAt w) :
    Calls Tryz.prog 7 #[.string s] w fun e w' => ParseR w (parseQ s) e w' ∧ Below w.heap.size w w' := by
  have hmf : ∀ (fn : Fn) (first cap : Array Value) (w : World), (Instr.makeFunc fn first cap).run Tryz.prog w = .ok (.func fn first cap) w := fun _ _ _ _ => rfl
  have h1lt := World.block_lt_of_cell? _ _ hv
  obtain ⟨W0, hW0⟩ : ∃ W0, (w.alloc (.cells zRep 25)).alloc (.cells #[.nilIface] 27) = W0 := ⟨_, rfl⟩
  have B0 : Hid (Below w.heap.size w W0) := by rw [← hW0]; exact ((Below.refl _ w).alloc (Nat.le_refl _) _).alloc (by simp) _
  have hs0 : Hid (W0.heap.size = w.heap.size + 2) := by rw [← hW0]; show _ = _; simp
  have L0 : BoxW W0 w.heap.size 25 zRep := by rw [← hW0]; exact (box_new w zRep 25).later (below_box _ _)
  have E0 : BoxW W0 (w.heap.size + 1) 27 #[.nilIface] := by
    rw [← hW0]
    have q := box_new (w.alloc (.cells zRep 25)) #[.nilIface] 27
    rwa [show (w.alloc (.cells zRep 25)).heap.size = w.heap.size + 1 by simp] at q
  have SC := hid (scan_any s W0 te pe (by rw [B0.out.cell (p := ⟨6, 0, none⟩) h1lt]; exact hv))
  have NM := hid hN
  have hlen := hs0.out
  have hne : w.heap.size ≠ w.heap.size + 1 := by omega
  cases hsc : scanM s with
  | error q =>
    obtain ⟨a, y⟩ := q
    rw [parseQ_err hsc]
    rw [hsc] at SC
    clear hv hN hsc
    go_enter_defers Tryz.func7, Tryz.ntmps7
    go_wp2_with fail
    go_at_call 16
    refine SC.out.mono ?_
    rintro e w1 ⟨rfl, b1⟩
    have L1 := L0.later b1
    have E1 := E0.later b1
    have B1 : Hid (Below w.heap.size w w1) := B0.out.trans (b1.mono B0.out.size)
    obtain ⟨k0, k1, k2, k3, k4, k5⟩ := L1.cells
    have e0 : w1.cell? ⟨w.heap.size + 1, 0, none⟩ = some .nilIface := E1.cell 0
    have z0 := L1.soft 0
    have z1 := L1.soft 1
    have z2 := L1.soft 2
    have z3 := L1.soft 3
    have z4 := L1.soft 4
    have z5 := L1.soft 5
    have ez := E1.soft 0
    have LH := hid L1
    have EH := hid E1
    clear b1 hW0 L0 E0 L1 E1
    go_wp2_with fail
    go_region
    go_wp2_with fail
    refine ⟨.tuple #[.agg zRep, .iface 49 (.agg #[.int .i64 (a : Int), .int .i64 (y : Int)])], by simp [results, Tryz.results7, go_sem, k0, k1, k2, k3, k4, k5, e0], ⟨rfl, ?_⟩⟩
    exact below_drew1 ((below_put6 (B1.out.setCell (p := ⟨w.heap.size + 1, 0, none⟩) (Nat.le_succ _) _) (Nat.le_refl _)).setCell (p := ⟨w.heap.size + 1, 0, none⟩) (Nat.le_succ _) _)
  | ok T =>
    rw [hsc] at SC
    have HFEW := hid (scanM_few hsc)
    have HSC := hid hsc
    clear hv hN hsc
    go_enter_defers Tryz.func7, Tryz.ntmps7
    go_wp2_with fail
    go_at_call 16
    refine SC.out.mono ?_
    rintro e w1 ⟨⟨v, rfl, htk, hroom⟩, b1⟩
    have L1 := L0.later b1
    have E1 := E0.later b1
    have B1 : Hid (Below w.heap.size w w1) := B0.out.trans (b1.mono B0.out.size)
    have hs1 : w.heap.size + 2 ≤ w1.heap.size := by rw [← hlen]; exact b1.size
    have LQ := hid (left_of_toks htk hroom (Nat.le_refl _))
    obtain ⟨ta, tc, rfl, htk1, htk2⟩ := id htk
    obtain ⟨k0, k1, k2, k3, k4, k5⟩ := L1.cells
    have e0 : w1.cell? ⟨w.heap.size + 1, 0, none⟩ = some .nilIface := E1.cell 0
    have z0 := L1.soft 0
    have z1 := L1.soft 1
    have z2 := L1.soft 2
    have z3 := L1.soft 3
    have z4 := L1.soft 4
    have z5 := L1.soft 5
    have ez := E1.soft 0
    have LH := hid L1
    have EH := hid E1
    have hself := setCell_self e0
    clear htk1 htk2 htk b1 hW0 L0 E0 L1 E1 hroom hlen
    go_wp2_with fail
    go_at_call 18
    obtain ⟨W2, hW2⟩ : ∃ W2, w1.alloc (.cells #[.slice ta T.length tc] 52) = W2 := ⟨_, rfl⟩
    have BB := below_box w1 (.cells #[.slice ta T.length tc] 52)
    rw [hW2] at BB
    have PQ0 : PQ w1.heap.size T W2 := by
      rw [← hW2]
      exact ⟨⟨_, (box_new w1 #[.slice ta T.length tc] 52).cell 0, LQ.out.keep (below_box w1 _)⟩, (box_new w1 #[.slice ta T.length tc] 52).soft 0, HFEW.out.1⟩
    have hz0 : 0 ≠ w1.heap.size := by have := NM.out.pos; omega
    have LN : Hid (BoxW W2 w.heap.size 25 zRep) := LH.out.later BB
    have EN : Hid (BoxW W2 (w.heap.size + 1) 27 #[.nilIface]) := EH.out.later BB
    have B2 : Hid (Below w.heap.size w W2) := B1.out.trans (BB.mono B1.out.size)
    have hs2 : Hid (W2.heap.size = w1.heap.size + 1) := by rw [← hW2]; show _ = _; simp
    rw [hW2]
    clear hW2
    refine (creport_is w1.heap.size T W2 PQ0 (NM.out.later B2.out) hz0).mono ?_
    rintro e w3 h3
    have hn1 : w.heap.size ≠ w1.heap.size := by omega
    have hn2 : w.heap.size + 1 ≠ w1.heap.size := by omega
    clear PQ0 BB LQ
    cases hq : qRep T with
    | none =>
      rw [hq] at h3
      obtain ⟨rfl, b3⟩ := h3
      refine leaves_cons (f := 17) (args := #[.pointer (some ⟨w.heap.size, 0, none⟩), .pointer (some ⟨w.heap.size + 1, 0, none⟩)]) (by simp) (by simp [go_sem]) ?_
      refine (catch_form w.heap.size (w.heap.size + 1) _ _ _ _ _ _ [] w3 (LN.out.beside b3 hn1) (EN.out.beside b3 hn2) hne).mono ?_
      rintro e u' w4 ⟨rfl, rfl, c1, c2, hsz, hb, o1, o2, o3⟩
      obtain ⟨j0, j1, j2, j3, j4, j5⟩ := c1.cells
      refine ⟨.tuple #[.agg zRep, .iface 49 (.agg #[.int .i64 0, .int .i64 210])], by simp [results, Tryz.results7, go_sem, j0, j1, j2, j3, j4, j5, c2], ?_, ?_⟩
      · rw [parseQ_none HSC.out hq]; rfl
      · have hsb := b3.size
        have := B2.out.size
        exact ⟨o1.trans (b3.os.trans B2.out.os), o2.trans (b3.tape.trans B2.out.tape), o3.trans (b3.output.trans B2.out.output), by omega, fun b hlt => (hb b (by omega) (by omega) (by omega)).trans ((b3.block b (by omega) (by omega)).trans (B2.out.block b hlt))⟩
    | some z =>
      obtain ⟨⟨x0, x1, x2, x3, x4, x5⟩, l2⟩ := z
      rw [hq] at h3
      obtain ⟨p3, ⟨v, he, aa, ac, oa, oc, hvv, hans, hord⟩, b3⟩ := h3
      have he2 : e = .returned (.agg #[.int .i64 x0, .bool x1, .slice aa x2.length ac, .int .i64 x3, .int .i64 x4, .slice oa x5.length oc]) := by rw [he, hvv]; rfl
      subst he2
      clear he hvv
      replace hans : AnsS (fun b => W2.heap.size ≤ b) w3 (.slice aa x2.length ac) x2 := hans
      replace hord : IntsIn (fun b => W2.heap.size ≤ b) w3 (.slice oa x5.length oc) x5 := hord
      have HQ := hid hq
      have FIT := hid (rep_cnt T _ _ hq)
      have L3 := LN.out.beside b3 hn1
      have E3 := EN.out.beside b3 hn2
      obtain ⟨q0, q1, q2, q3, q4, q5⟩ := L3.cells
      have g0 : w3.cell? ⟨w.heap.size + 1, 0, none⟩ = some .nilIface := E3.cell 0
      have y0 := L3.soft 0
      have y1 := L3.soft 1
      have y2 := L3.soft 2
      have y3 := L3.soft 3
      have y4 := L3.soft 4
      have y5 := L3.soft 5
      have gz := E3.soft 0
      have hs2' := hs2.out
      obtain ⟨W4, hW4⟩ : ∃ W4, ((((((w3.setCell ⟨w.heap.size, 0, none⟩ (.int .i64 x0)).setCell ⟨w.heap.size, 1, none⟩ (.bool x1)).setCell ⟨w.heap.size, 2, none⟩ (.slice aa x2.length ac)).setCell ⟨w.heap.size, 3, none⟩ (.int .i64 x3)).setCell ⟨w.heap.size, 4, none⟩ (.int .i64 x4)).setCell ⟨w.heap.size, 5, none⟩ (.slice oa x5.length oc)) = W4 := ⟨_, rfl⟩
      have B3 : Hid (Below w.heap.size w w3) := B2.out.trans (b3.below (by omega) (by omega))
      have hs3 : Hid (W2.heap.size ≤ w3.heap.size) := b3.size
      have L4 : Hid (BoxW W4 w.heap.size 25 #[.int .i64 x0, .bool x1, .slice aa x2.length ac, .int .i64 x3, .int .i64 x4, .slice oa x5.length oc]) := by rw [← hW4]; exact box_put6 L3
      have E4 : Hid (BoxW W4 (w.heap.size + 1) 27 #[.nilIface]) := by rw [← hW4]; exact box_oth6 E3 (Ne.symm hne)
      have B4 : Hid (Below w.heap.size w W4) := by rw [← hW4]; exact below_put6 B3.out (Nat.le_refl _)
      have K4 : ∀ S : Nat → Prop, (∀ b, S b → W2.heap.size ≤ b) → KeepsIn S w3 W4 := by
        intro S hS b hb hlt
        have := hS b hb
        rw [← hW4]
        simp only [World.setCell, Array.getElem?_modify]
        rw [if_neg (by omega), if_neg (by omega), if_neg (by omega), if_neg (by omega), if_neg (by omega), if_neg (by omega)]
      have A4 : Hid (AnsS (fun b => W2.heap.size ≤ b) W4 (.slice aa x2.length ac) x2) := hans.keep (K4 _ (fun _ h => h)) (fun _ _ h => h)
      have O4 : Hid (IntsIn (fun b => W2.heap.size ≤ b) W4 (.slice oa x5.length oc) x5) := hord.keep (K4 _ (fun _ h => h)) (fun _ _ h => h)
      have CC := hid (ccan_is (S := fun b => W2.heap.size ≤ b) x0 x1 aa x2 ac x3 x4 oa x5 oc W4 A4.out (NM.out.later B4.out))
      clear p3 hq hans hord b3 L3 E3 k0 k1 k2 k3 k4 k5 e0 z0 z1 z2 z3 z4 z5 ez hself hs2' K4
      obtain ⟨n0, n1, n2, n3, n4, n5⟩ := L4.out.cells
      go_wp2_with fail
      clear hW4 q0 q1 q2 q3 q4 q5 g0 y0 y1 y2 y3 y4 y5 gz n0 n1 n2 n3 n4 n5
      go_at_call 19
      refine CC.out.mono ?_
      rintro e w5 ⟨rfl, b5⟩
      have L5 := L4.out.later b5
      have E5 := E4.out.later b5
      have B5 : Hid (Below w.heap.size w w5) := B4.out.trans (b5.mono B4.out.size)
      have A5 : Hid (AnsS (fun b => W2.heap.size ≤ b) w5 (.slice aa x2.length ac) x2) := A4.out.keep (keeps_below b5) (fun _ _ h => h)
      have O5 : Hid (IntsIn (fun b => W2.heap.size ≤ b) w5 (.slice oa x5.length oc) x5) := O4.out.keep (keeps_below b5) (fun _ _ h => h)
      have hs5 : w.heap.size + 2 ≤ w5.heap.size := by have h1 := L5.lt; have h2 := E5.lt; omega
      clear b5
      cases hcan : canR (x0, x1, x2, x3, x4, x5) with
      | false =>
        have HN : Hid (parseQ s = .error (0, 210)) := parseQ_no HSC.out HQ.out hcan
        have LH5 := hid L5
        have EH5 := hid E5
        clear L5 E5 hcan
        go_wp2_with (go_at_call 20; refine (giveUp_is _).mono ?_; rintro e w6 ⟨rfl, rfl⟩)
        refine leaves_cons (f := 17) (args := #[.pointer (some ⟨w.heap.size, 0, none⟩), .pointer (some ⟨w.heap.size + 1, 0, none⟩)]) (by simp) (by simp [go_sem]) ?_
        refine (catch_form w.heap.size (w.heap.size + 1) _ _ _ _ _ _ [] w5 LH5.out EH5.out hne).mono ?_
        rintro e u' w4 ⟨rfl, rfl, c1, c2, hsz, hb, o1, o2, o3⟩
        obtain ⟨j0, j1, j2, j3, j4, j5⟩ := c1.cells
        refine ⟨.tuple #[.agg zRep, .iface 49 (.agg #[.int .i64 0, .int .i64 210])], by simp [results, Tryz.results7, go_sem, j0, j1, j2, j3, j4, j5, c2], ?_, ?_⟩
        · rw [HN.out]; rfl
        · exact ⟨o1.trans B5.out.os, o2.trans B5.out.tape, o3.trans B5.out.output, by omega, fun b hlt => (hb b (by omega) (by omega) (by omega)).trans (B5.out.block b hlt)⟩
      | true =>
        have HN : Hid (parseQ s = .ok (x0, x1, x2, x3, x4, x5)) := parseQ_yes HSC.out HQ.out hcan
        obtain ⟨q0, q1, q2, q3, q4, q5⟩ := L5.cells
        have g0 : w5.cell? ⟨w.heap.size + 1, 0, none⟩ = some .nilIface := E5.cell 0
        have y0 := L5.soft 0
        have y1 := L5.soft 1
        have y2 := L5.soft 2
        have y3 := L5.soft 3
        have y4 := L5.soft 4
        have y5 := L5.soft 5
        have gz := E5.soft 0
        have LH5 := hid L5
        clear L5 E5 hcan
        go_wp2_with fail
        refine leaves_cons (f := 17) (args := #[.pointer (some ⟨w.heap.size, 0, none⟩), .pointer (some ⟨w.heap.size + 1, 0, none⟩)]) (by simp) (by simp [go_sem]) ?_
        refine (catch_idle _ _ _).mono ?_
        rintro e u' w6 ⟨rfl, rfl, rfl⟩
        refine ⟨.tuple #[.agg #[.int .i64 x0, .bool x1, .slice aa x2.length ac, .int .i64 x3, .int .i64 x4, .slice oa x5.length oc], .nilIface], by simp [results, Tryz.results7, go_sem, q0, q1, q2, q3, q4, q5, g0], ?_, ?_⟩
        · rw [HN.out]
          have K6 : ∀ S : Nat → Prop, (∀ b, S b → W2.heap.size ≤ b) → KeepsIn S w5 (((((((w5.setCell ⟨w.heap.size, 0, none⟩ (.int .i64 x0)).setCell ⟨w.heap.size, 1, none⟩ (.bool x1)).setCell ⟨w.heap.size, 2, none⟩ (.slice aa x2.length ac)).setCell ⟨w.heap.size, 3, none⟩ (.int .i64 x3)).setCell ⟨w.heap.size, 4, none⟩ (.int .i64 x4)).setCell ⟨w.heap.size, 5, none⟩ (.slice oa x5.length oc)).setCell ⟨w.heap.size + 1, 0, none⟩ .nilIface) := by
            intro S hS b hb hlt
            have := hS b hb
            have := hs2.out
            simp only [World.setCell, Array.getElem?_modify]
            rw [if_neg (by omega), if_neg (by omega), if_neg (by omega), if_neg (by omega), if_neg (by omega), if_neg (by omega), if_neg (by omega)]
          refine ⟨_, rfl, aa, ac, oa, oc, rfl, A5.out.keep (K6 _ (fun _ h => h)) (fun b _ hb => ?_), O5.out.keep (K6 _ (fun _ h => h)) (fun b _ hb => ?_)⟩
          · have := hs2.out; have hb' : W2.heap.size ≤ b := hb; omega
          · have := hs2.out; have hb' : W2.heap.size ≤ b := hb; omega
        · exact (below_put6 B5.out (Nat.le_refl _)).setCell (p := ⟨w.heap.size + 1, 0, none⟩) (Nat.le_succ _) _
end Go.Proofs.YtkpomcimaofkkaaGreatDoor.Rp
namespace Go.Proofs.YtkpomcimaofkkaaGreatDoor.Rp
set_option linter.unusedVariables false
set_option linter.unusedSimpArgs false
open Go.RowKit Go.Lib

/-- The document's reader in its box. -/
structure DQ (bx : Nat) (r : Qr) (w : World) : Prop where
  left : ∃ v, w.cell? ⟨bx, 0, none⟩ = some v ∧ LeftQ bx w v r.1
  bad : w.cell? ⟨bx, 1, none⟩ = some (.bool r.2)
  z0 : w.frozen? ⟨bx, 0, none⟩ = false
  z1 : w.frozen? ⟨bx, 1, none⟩ = false
  few : r.1.length ≤ 20000
theorem DQ.lt {bx : Nat} {r : Qr} {w : World} (h : DQ bx r w) : bx < w.heap.size := World.block_lt_of_cell? _ _ h.bad
theorem DQ.keep {bx : Nat} {r : Qr} {w w' : World} (h : DQ bx r w) (hb : Below (bx + 1) w w') : DQ bx r w' := by
  obtain ⟨v, h0, hl⟩ := h.left
  exact ⟨⟨v, (hb.cell (p := ⟨bx, 0, none⟩) (Nat.lt_succ_self _)).trans h0, hl.keep (hb.mono (Nat.le_succ _))⟩, (hb.cell (p := ⟨bx, 1, none⟩) (Nat.lt_succ_self _)).trans h.bad, (hb.frozen (p := ⟨bx, 0, none⟩) (Nat.lt_succ_self _)).trans h.z0, (hb.frozen (p := ⟨bx, 1, none⟩) (Nat.lt_succ_self _)).trans h.z1, h.few⟩
theorem DQ.later {bx : Nat} {r : Qr} {w w' : World} (h : DQ bx r w) (hb : Below w.heap.size w w') : DQ bx r w' := h.keep (hb.mono h.lt)
theorem DQ.other {bx g i : Nat} {r : Qr} {w : World} (h : DQ bx r w) (hg : bx < g) (u : Value) : DQ bx r (w.setCell ⟨g, i, none⟩ u) := h.keep ((Below.refl (bx + 1) w).setCell (p := ⟨g, i, none⟩) hg u)
theorem DQ.fail {bx : Nat} {r : Qr} {w : World} (h : DQ bx r w) : DQ bx (r.1, true) (w.setCell ⟨bx, 1, none⟩ (.bool true)) := by
  obtain ⟨v, h0, hl⟩ := h.left
  exact ⟨⟨v, (World.cell?_setCell_other _ _ _ _ (by simp)).trans h0, hl.beside ((Beside.refl bx w).setCell (p := ⟨bx, 1, none⟩) rfl _) (Nat.le_of_lt h.lt)⟩, World.cell?_setCell_same _ _ _ h.bad, (World.frozen?_setCell _ _ _ _).trans h.z0, (World.frozen?_setCell _ _ _ _).trans h.z1, h.few⟩
theorem DQ.took {bx : Nat} {t : MTok} {l : List MTok} {w : World} {u : Value} (h : DQ bx (t :: l, false) w) (hl : LeftQ bx w u l) : DQ bx (l, false) (w.setCell ⟨bx, 0, none⟩ u) := by
  obtain ⟨v, h0, _⟩ := h.left
  have hf := h.few
  simp at hf
  exact ⟨⟨u, World.cell?_setCell_same _ _ _ h0, hl.beside ((Beside.refl bx w).setCell (p := ⟨bx, 0, none⟩) rfl _) (Nat.le_of_lt h.lt)⟩, (World.cell?_setCell_other _ _ _ _ (by simp)).trans h.bad, (World.frozen?_setCell _ _ _ _).trans h.z0, (World.frozen?_setCell _ _ _ _).trans h.z1, (by simp; omega)⟩
theorem size_nil (x : ByteArray) : (x.size == 0) = (x.toList == []) := by
  rw [ByteArray.toList_eq]
  cases h : x.data.toList with
  | nil =>
    have h1 : x.data.toList.length = 0 := by rw [h]; rfl
    rw [Array.length_toList] at h1
    have e : x.size = 0 := h1
    rw [e]; rfl
  | cons a l =>
    have h1 : x.data.toList.length = l.length + 1 := by rw [h]; rfl
    rw [Array.length_toList] at h1
    have e : x.size = l.length + 1 := h1
    rw [e]; rfl
set_option maxHeartbeats 4000000 in
set_option maxRecDepth 100000 in
theorem dis_is (bx : Nat) (k : Int) (x : ByteArray) (r : Qr) (w : World) (h : DQ bx r w) :
    Calls Tryz.prog 22 #[.pointer (some ⟨bx, 0, none⟩), .int .i64 k, .string x] w fun e w' => e = .returned (.bool (rqIs r k x)) ∧ w = w' := by
  obtain ⟨⟨v, c0, ao, c, rfl, hc, hj⟩, cb, z0, z1, hfew⟩ := h
  obtain ⟨l, b⟩ := r
  cases b with
  | true =>
    clear hj
    have cb' : w.cell? ⟨bx, 1, none⟩ = some (.bool true) := cb
    clear cb
    show Calls _ _ _ _ fun e w' => e = .returned (.bool false) ∧ w = w'
    go_enter Tryz.func22, Tryz.ntmps22
    go_wp2_with fail
    go_ret
    exact ⟨rfl, rfl⟩
  | false =>
    have cb' : w.cell? ⟨bx, 1, none⟩ = some (.bool false) := cb
    clear cb
    cases l with
    | nil =>
      clear hj
      have hz : ¬ (0 : Int) < ((0 : Nat) : Int) := by omega
      show Calls _ _ _ _ fun e w' => e = .returned (.bool false) ∧ w = w'
      go_enter Tryz.func22, Tryz.ntmps22
      go_wp2_with fail
      go_ret
      exact ⟨rfl, rfl⟩
    | cons t rest =>
      obtain ⟨bb, off, rfl, hbb, hcs⟩ := hj (by simp)
      have d0 : w.cell? ⟨bb, off, none⟩ = some (.int .i64 t.1) := by simpa using hcs 0 (by simp) 0 _ rfl
      have d2 : w.cell? ⟨bb, off + 2, none⟩ = some (.string t.2.2.1) := by simpa using hcs 0 (by simp) 2 _ rfl
      have hl2 : (t :: rest).length = rest.length + 1 := rfl
      have hrp : (0 : Int) < (rest.length : Int) + 1 := by omega
      have hr0 : 0 < rest.length + 1 := by omega
      clear hcs hj hfew hc
      show Calls _ _ _ _ fun e w' => e = .returned (.bool (t.1 == k && (x.size == 0 || t.2.2.1.toList == x.toList))) ∧ w = w'
      have c0' : w.cell? ⟨bx, 0, none⟩ = some (.slice (some ⟨bb, off, none⟩) (rest.length + 1) c) := c0
      clear c0 hl2
      rw [size_nil]
      by_cases hk : t.1 = k
      · have hb1 : (t.1 == k) = true := by simpa using hk
        rw [hb1]
        cases hx : x.toList with
        | nil =>
          have he : x.toList.isEmpty = true := by rw [hx]; rfl
          have he2 : (x.toList == []) = true := by rw [hx]; rfl
          clear hk
          go_enter Tryz.func22, Tryz.ntmps22
          go_wp2_with fail
          go_ret
          exact ⟨by simp, rfl⟩
        | cons y ys =>
          have he : x.toList.isEmpty = false := by rw [hx]; rfl
          have he2 : (x.toList == []) = false := by rw [hx]; rfl
          have he3 : ¬ x.toList = [] := by rw [hx]; simp
          rw [← hx]
          clear hk hx
          cases hy : t.2.2.1.toList == x.toList with
          | true =>
            go_enter Tryz.func22, Tryz.ntmps22
            go_wp2_with fail
            go_ret
            exact ⟨by simp [he2], rfl⟩
          | false =>
            go_enter Tryz.func22, Tryz.ntmps22
            go_wp2_with fail
            go_ret
            exact ⟨by simp [he2], rfl⟩
      · have hb1 : (t.1 == k) = false := by simpa using hk
        rw [hb1]
        clear hk
        go_enter Tryz.func22, Tryz.ntmps22
        go_wp2_with fail
        go_ret
        exact ⟨rfl, rfl⟩
end Go.Proofs.YtkpomcimaofkkaaGreatDoor.Rp
