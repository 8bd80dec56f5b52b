/-
  The law RealtimeGoes.
-/
import Derived.Test.YtbcegdiabnapkaaT7
import Derived.Deep.CutRange
namespace Go.Proofs.Ytbcegdiabnapkaa
set_option linter.unusedVariables false
set_option linter.unusedSimpArgs false
open Go.RowKit Go.Lib

/-- A transaction in a box. -/
def Bx (w : World) (p : Nat) (t : LT) : Prop := p < w.heap.size ∧ ∀ i u, (encT t)[i]? = some u → w.cell? ⟨p, i, none⟩ = some u
theorem Bx.later {w w' : World} {p : Nat} {t : LT} (h : Bx w p t) (hb : Below w.heap.size w w') : Bx w' p t :=
  ⟨Nat.lt_of_lt_of_le h.1 hb.size, fun i u hi => (hb.cell (p := ⟨p, i, none⟩) h.1).trans (h.2 i u hi)⟩
theorem Bx.five {w : World} {p : Nat} {t : LT} (h : Bx w p t) : w.cell? ⟨p, 0, none⟩ = some (.int .i64 t.proc) ∧ w.cell? ⟨p, 1, none⟩ = some (.int .i64 t.state) ∧ w.cell? ⟨p, 2, none⟩ = some (.int .i64 t.since) ∧ w.cell? ⟨p, 3, none⟩ = some (.int .i64 t.till) ∧ w.cell? ⟨p, 4, none⟩ = some t.ov :=
  ⟨h.2 0 _ rfl, h.2 1 _ rfl, h.2 2 _ rfl, h.2 3 _ rfl, h.2 4 _ rfl⟩
theorem Bx.allocs {w : World} {p : Nat} {t : LT} (h : Bx w p t) : (∀ o, (w.alloc o).cell? ⟨p, 0, none⟩ = some (.int .i64 t.proc)) ∧ (∀ o, (w.alloc o).cell? ⟨p, 1, none⟩ = some (.int .i64 t.state)) ∧ (∀ o, (w.alloc o).cell? ⟨p, 2, none⟩ = some (.int .i64 t.since)) ∧ (∀ o, (w.alloc o).cell? ⟨p, 3, none⟩ = some (.int .i64 t.till)) ∧ (∀ o, (w.alloc o).cell? ⟨p, 4, none⟩ = some t.ov) :=
  ⟨fun o => Lib.cell?_alloc_some _ (h.2 0 _ rfl), fun o => Lib.cell?_alloc_some _ (h.2 1 _ rfl), fun o => Lib.cell?_alloc_some _ (h.2 2 _ rfl), fun o => Lib.cell?_alloc_some _ (h.2 3 _ rfl), fun o => Lib.cell?_alloc_some _ (h.2 4 _ rfl)⟩
theorem Bx.made (w : World) (t : LT) (ty : TypeId) : Bx (w.alloc (.cells #[.int .i64 t.proc, .int .i64 t.state, .int .i64 t.since, .int .i64 t.till, t.ov] ty)) w.heap.size t := by
  refine ⟨by simp, fun i u hi => ?_⟩
  match i with
  | 0 => simp [encT] at hi; subst hi; simp
  | 1 => simp [encT] at hi; subst hi; simp
  | 2 => simp [encT] at hi; subst hi; simp
  | 3 => simp [encT] at hi; subst hi; simp
  | 4 => simp [encT] at hi; subst hi; simp
  | n + 5 => simp [encT] at hi

theorem bef_goes {a b c : LT} (ha : Rt a) (hb : Rt b) (h1 : bef a b = true) (h2 : bef b c = true) : bef a c = true := by
  rw [bef_iff] at *
  unfold Rt at ha hb
  omega
theorem bef_self {a : LT} (ha : Rt a) : bef a a = false := by
  cases h : bef a a with
  | false => rfl
  | true =>
    rw [bef_iff] at h
    unfold Rt at ha
    omega
theorem before_at (ap ast af att : Int) (ao : Value) (bp bst bf btt : Int) (bo : Value) (r : Bool) (hr : bef (ap, ast, af, att, ao) (bp, bst, bf, btt, bo) = r) (w : World) :
    Calls Try.prog 10 #[.agg #[.int .i64 ap, .int .i64 ast, .int .i64 af, .int .i64 att, ao], .agg #[.int .i64 bp, .int .i64 bst, .int .i64 bf, .int .i64 btt, bo]] w fun e w' => e = .returned (.bool r) ∧ Below w.heap.size w w' :=
  (before_is (ap, ast, af, att, ao) (bp, bst, bf, btt, bo) w).mono fun e w' ⟨he, os, hw⟩ => ⟨by rw [he, hr], by rw [hw]; exact below_growS w os⟩

set_option maxHeartbeats 4000000 in
set_option maxRecDepth 100000 in
theorem goes_walk {S : Nat → Prop} (v : Value) (l : List MTxn) (w : World) (h : TxnsIn S w v l) :
    Calls Try.prog 5 #[v] w fun e w' => e = .returned (.bool true) ∧ Below w.heap.size w w' := by
  have H := hid h
  clear h
  go_enter Try.func5, Try.ntmps5
  go_wp2_with fail
  go_at_call 8
  refine (small_any v l w H.out).mono ?_
  rintro e w1 ⟨v1, rfl, hv1, hb1⟩
  have h40 : (smallL l).length ≤ 40 := by unfold smallL; simp; omega
  obtain ⟨ao, c, f, rfl, hlc, hby, hLt, -⟩ := hv1.lt
  generalize (smallL l).length = n at *
  have L1 := hid hLt
  have B1 := hid hb1
  clear hv1 hLt hb1 H
  go_wp2_with fail
  go_at_call 18
  refine (right_is ao c n f w1 h40 hlc L1.out).mono ?_
  rintro e w2 ⟨ao', c', m, rfl, hmc, hm, ⟨f', hL, hR⟩, hb2⟩
  have L2 := hid hL
  have R2 := hid hR
  have B2 := hid (B1.out.trans (hb2.mono B1.out.size))
  clear hL hR hb2 B1 L1
  go_wp2_with fail
  go_loopg [4, 15] m (fun gg _ i wr => ∃ k : Nat, k ≤ m ∧ m - k ≤ gg ∧ i = .int .i64 k ∧ Aside (Below w2.heap.size w2 wr))
  case atStart => exact ⟨0, Nat.zero_le _, by omega, rfl, Below.refl _ _⟩
  case round =>
    obtain ⟨i, hi, hgk, rfl, BW⟩ := hrel
    by_cases hlt : i < m
    · have hlti : (i : Int) < (m : Int) := by omega
      obtain ⟨b, o, rfl, -, ⟨xa, xn, xc, hx⟩, d0, d1, d2, d3, d4⟩ := (L2.out.later BW.out).five i hlt
      have RA := hid (R2.out i hlt)
      generalize f' i = A at *
      obtain ⟨ap, ast, af, att, av⟩ := A
      simp only [LT.proc, LT.state, LT.since, LT.till, LT.ov] at d0 d1 d2 d3 d4 hx
      subst hx
      go_wp2_with fail
      have BA : Hid (Bx (wr.alloc (.cells #[.int .i64 ap, .int .i64 ast, .int .i64 af, .int .i64 att, .slice xa xn xc] 26)) wr.heap.size (ap, ast, af, att, .slice xa xn xc)) := (Bx.made wr (ap, ast, af, att, .slice xa xn xc) 26)
      have BWA := hid (BW.out.alloc BW.out.size (.cells #[.int .i64 ap, .int .i64 ast, .int .i64 af, .int .i64 att, .slice xa xn xc] 26))
      clear d0 d1 d2 d3 d4 BW
      generalize wr.alloc (.cells #[.int .i64 ap, .int .i64 ast, .int .i64 af, .int .i64 att, .slice xa xn xc] 26) = wa at *
      generalize wr.heap.size = pa at *
      go_loopg [6, 21] m (fun gg _ i wr => ∃ k : Nat, k ≤ m ∧ m - k ≤ gg ∧ i = .int .i64 k ∧ Aside (Below wa.heap.size wa wr))
      case atStart => exact ⟨0, Nat.zero_le _, by omega, rfl, Below.refl _ _⟩
      case round =>
        obtain ⟨j, hj, hgj, rfl, BW⟩ := hrel
        by_cases hltj : j < m
        · have hltji : (j : Int) < (m : Int) := by omega
          obtain ⟨b', o', e', -, ⟨xa', xn', xc', hx⟩, d0, d1, d2, d3, d4⟩ := (L2.out.later (BWA.out.trans (BW.out.mono BWA.out.size))).five j hltj
          cases e'
          have RB := hid (R2.out j hltj)
          generalize f' j = Bt at *
          obtain ⟨bp, bst, bf, btt, bv⟩ := Bt
          simp only [LT.proc, LT.state, LT.since, LT.till, LT.ov] at d0 d1 d2 d3 d4 hx
          subst hx
          go_wp2_with fail
          have BB : Hid (Bx (wr.alloc (.cells #[.int .i64 bp, .int .i64 bst, .int .i64 bf, .int .i64 btt, .slice xa' xn' xc'] 26)) wr.heap.size (bp, bst, bf, btt, .slice xa' xn' xc')) := (Bx.made wr (bp, bst, bf, btt, .slice xa' xn' xc') 26)
          have BWB := hid (BW.out.alloc BW.out.size (.cells #[.int .i64 bp, .int .i64 bst, .int .i64 bf, .int .i64 btt, .slice xa' xn' xc'] 26))
          clear d0 d1 d2 d3 d4 BW
          generalize wr.alloc (.cells #[.int .i64 bp, .int .i64 bst, .int .i64 bf, .int .i64 btt, .slice xa' xn' xc'] 26) = wb at *
          generalize wr.heap.size = pb at *
          go_loopg [8, 27] m (fun gg _ i wr => ∃ k : Nat, k ≤ m ∧ m - k ≤ gg ∧ i = .int .i64 k ∧ Aside (Below wb.heap.size wb wr))
          case atStart => exact ⟨0, Nat.zero_le _, by omega, rfl, Below.refl _ _⟩
          case round =>
            obtain ⟨k, hk, hgk2, rfl, BW⟩ := hrel
            by_cases hltk : k < m
            · have hltki : (k : Int) < (m : Int) := by omega
              obtain ⟨b', o', e', -, ⟨ya, yn, yc, hx⟩, d0, d1, d2, d3, d4⟩ := (L2.out.later (BWA.out.trans ((BWB.out.trans (BW.out.mono BWB.out.size)).mono BWA.out.size))).five k hltk
              cases e'
              generalize f' k = C at *
              obtain ⟨cp, cst, cf, ctt, cv⟩ := C
              simp only [LT.proc, LT.state, LT.since, LT.till, LT.ov] at d0 d1 d2 d3 d4 hx
              subst hx
              have BC : Hid (Bx (wr.alloc (.cells #[.int .i64 cp, .int .i64 cst, .int .i64 cf, .int .i64 ctt, .slice ya yn yc] 26)) wr.heap.size (cp, cst, cf, ctt, .slice ya yn yc)) := (Bx.made wr (cp, cst, cf, ctt, .slice ya yn yc) 26)
              have BWC := hid (BW.out.alloc BW.out.size (.cells #[.int .i64 cp, .int .i64 cst, .int .i64 cf, .int .i64 ctt, .slice ya yn yc] 26))
              have XA := hid ((BA.out.later BWB.out).later BWC.out)
              have XB := hid (BB.out.later BWC.out)
              have BWT := hid (BWB.out.trans (BWC.out.mono BWB.out.size))
              have hAA : bef (ap, ast, af, att, .slice xa xn xc) (ap, ast, af, att, .slice xa xn xc) = false := bef_self RA.out
              have XA0 := hid ((BA.out.later BWB.out).later BW.out)
              have XB0 := hid (BB.out.later BW.out)
              obtain ⟨a0, a1, a2, a3, a4⟩ := XA0.out.five
              obtain ⟨b0, b1, b2, b3, b4⟩ := XB0.out.five
              simp only [LT.proc, LT.state, LT.since, LT.till, LT.ov] at a0 a1 a2 a3 a4 b0 b1 b2 b3 b4
              have la : pa < wr.heap.size := XA0.out.1
              have lb : pb < wr.heap.size := XB0.out.1
              go_wp2_with fail
              clear d0 d1 d2 d3 d4 BW a0 a1 a2 a3 a4 b0 b1 b2 b3 b4 la lb XA0 XB0
              generalize wr.alloc (.cells #[.int .i64 cp, .int .i64 cst, .int .i64 cf, .int .i64 ctt, .slice ya yn yc] 26) = wc at *
              generalize wr.heap.size = pc at *
              cases hAB : bef (ap, ast, af, att, .slice xa xn xc) (bp, bst, bf, btt, .slice xa' xn' xc') with
              | false =>
                go_at_call 10
                refine (before_at _ _ _ _ _ _ _ _ _ _ _ hAB _).mono ?_
                rintro e w5 ⟨rfl, hb⟩
                replace XA := hid (XA.out.later hb)
                replace XB := hid (XB.out.later hb)
                replace BC := hid (BC.out.later hb)
                replace BWC := hid (BWC.out.trans (hb.mono BWC.out.size))
                clear hb
                obtain ⟨a0, a1, a2, a3, a4⟩ := XA.out.five
                obtain ⟨b0, b1, b2, b3, b4⟩ := XB.out.five
                obtain ⟨c0, c1, c2, c3, c4⟩ := BC.out.five
                simp only [LT.proc, LT.state, LT.since, LT.till, LT.ov] at a0 a1 a2 a3 a4 b0 b1 b2 b3 b4 c0 c1 c2 c3 c4
                go_wp2_with fail
                go_at_call 10
                refine (before_at _ _ _ _ _ _ _ _ _ _ _ hAA _).mono ?_
                rintro e w6 ⟨rfl, hb⟩
                clear a0 a1 a2 a3 a4 b0 b1 b2 b3 b4 c0 c1 c2 c3 c4
                replace XA := hid (XA.out.later hb)
                replace XB := hid (XB.out.later hb)
                replace BC := hid (BC.out.later hb)
                replace BWC := hid (BWC.out.trans (hb.mono BWC.out.size))
                clear hb
                obtain ⟨a0, a1, a2, a3, a4⟩ := XA.out.five
                obtain ⟨b0, b1, b2, b3, b4⟩ := XB.out.five
                obtain ⟨c0, c1, c2, c3, c4⟩ := BC.out.five
                simp only [LT.proc, LT.state, LT.since, LT.till, LT.ov] at a0 a1 a2 a3 a4 b0 b1 b2 b3 b4 c0 c1 c2 c3 c4
                go_wp2_with fail
                go_roundg (m - (k + 1))
                case measure => omega
                case rel => exact ⟨k + 1, by omega, by omega, by go_num, BWC.out⟩
              | true =>
                cases hBC : bef (bp, bst, bf, btt, .slice xa' xn' xc') (cp, cst, cf, ctt, .slice ya yn yc) with
                | false =>
                  go_at_call 10
                  refine (before_at _ _ _ _ _ _ _ _ _ _ _ hAB _).mono ?_
                  rintro e w5 ⟨rfl, hb⟩
                  replace XA := hid (XA.out.later hb)
                  replace XB := hid (XB.out.later hb)
                  replace BC := hid (BC.out.later hb)
                  replace BWC := hid (BWC.out.trans (hb.mono BWC.out.size))
                  clear hb
                  obtain ⟨a0, a1, a2, a3, a4⟩ := XA.out.five
                  obtain ⟨b0, b1, b2, b3, b4⟩ := XB.out.five
                  obtain ⟨c0, c1, c2, c3, c4⟩ := BC.out.five
                  simp only [LT.proc, LT.state, LT.since, LT.till, LT.ov] at a0 a1 a2 a3 a4 b0 b1 b2 b3 b4 c0 c1 c2 c3 c4
                  go_wp2_with fail
                  go_at_call 10
                  refine (before_at _ _ _ _ _ _ _ _ _ _ _ hBC _).mono ?_
                  rintro e w6 ⟨rfl, hb⟩
                  clear a0 a1 a2 a3 a4 b0 b1 b2 b3 b4 c0 c1 c2 c3 c4
                  replace XA := hid (XA.out.later hb)
                  replace XB := hid (XB.out.later hb)
                  replace BC := hid (BC.out.later hb)
                  replace BWC := hid (BWC.out.trans (hb.mono BWC.out.size))
                  clear hb
                  obtain ⟨a0, a1, a2, a3, a4⟩ := XA.out.five
                  obtain ⟨b0, b1, b2, b3, b4⟩ := XB.out.five
                  obtain ⟨c0, c1, c2, c3, c4⟩ := BC.out.five
                  simp only [LT.proc, LT.state, LT.since, LT.till, LT.ov] at a0 a1 a2 a3 a4 b0 b1 b2 b3 b4 c0 c1 c2 c3 c4
                  go_wp2_with fail
                  go_at_call 10
                  refine (before_at _ _ _ _ _ _ _ _ _ _ _ hAA _).mono ?_
                  rintro e w7 ⟨rfl, hb⟩
                  clear a0 a1 a2 a3 a4 b0 b1 b2 b3 b4 c0 c1 c2 c3 c4
                  replace XA := hid (XA.out.later hb)
                  replace XB := hid (XB.out.later hb)
                  replace BC := hid (BC.out.later hb)
                  replace BWC := hid (BWC.out.trans (hb.mono BWC.out.size))
                  clear hb
                  obtain ⟨a0, a1, a2, a3, a4⟩ := XA.out.five
                  obtain ⟨b0, b1, b2, b3, b4⟩ := XB.out.five
                  obtain ⟨c0, c1, c2, c3, c4⟩ := BC.out.five
                  simp only [LT.proc, LT.state, LT.since, LT.till, LT.ov] at a0 a1 a2 a3 a4 b0 b1 b2 b3 b4 c0 c1 c2 c3 c4
                  go_wp2_with fail
                  go_roundg (m - (k + 1))
                  case measure => omega
                  case rel => exact ⟨k + 1, by omega, by omega, by go_num, BWC.out⟩
                | true =>
                  have hAC := bef_goes RA.out RB.out hAB hBC
                  go_at_call 10
                  refine (before_at _ _ _ _ _ _ _ _ _ _ _ hAB _).mono ?_
                  rintro e w5 ⟨rfl, hb⟩
                  replace XA := hid (XA.out.later hb)
                  replace XB := hid (XB.out.later hb)
                  replace BC := hid (BC.out.later hb)
                  replace BWC := hid (BWC.out.trans (hb.mono BWC.out.size))
                  clear hb
                  obtain ⟨a0, a1, a2, a3, a4⟩ := XA.out.five
                  obtain ⟨b0, b1, b2, b3, b4⟩ := XB.out.five
                  obtain ⟨c0, c1, c2, c3, c4⟩ := BC.out.five
                  simp only [LT.proc, LT.state, LT.since, LT.till, LT.ov] at a0 a1 a2 a3 a4 b0 b1 b2 b3 b4 c0 c1 c2 c3 c4
                  go_wp2_with fail
                  go_at_call 10
                  refine (before_at _ _ _ _ _ _ _ _ _ _ _ hBC _).mono ?_
                  rintro e w6 ⟨rfl, hb⟩
                  clear a0 a1 a2 a3 a4 b0 b1 b2 b3 b4 c0 c1 c2 c3 c4
                  replace XA := hid (XA.out.later hb)
                  replace XB := hid (XB.out.later hb)
                  replace BC := hid (BC.out.later hb)
                  replace BWC := hid (BWC.out.trans (hb.mono BWC.out.size))
                  clear hb
                  obtain ⟨a0, a1, a2, a3, a4⟩ := XA.out.five
                  obtain ⟨b0, b1, b2, b3, b4⟩ := XB.out.five
                  obtain ⟨c0, c1, c2, c3, c4⟩ := BC.out.five
                  simp only [LT.proc, LT.state, LT.since, LT.till, LT.ov] at a0 a1 a2 a3 a4 b0 b1 b2 b3 b4 c0 c1 c2 c3 c4
                  go_wp2_with fail
                  go_at_call 10
                  refine (before_at _ _ _ _ _ _ _ _ _ _ _ hAC _).mono ?_
                  rintro e w7 ⟨rfl, hb⟩
                  clear a0 a1 a2 a3 a4 b0 b1 b2 b3 b4 c0 c1 c2 c3 c4
                  replace XA := hid (XA.out.later hb)
                  replace XB := hid (XB.out.later hb)
                  replace BC := hid (BC.out.later hb)
                  replace BWC := hid (BWC.out.trans (hb.mono BWC.out.size))
                  clear hb
                  obtain ⟨a0, a1, a2, a3, a4⟩ := XA.out.five
                  obtain ⟨b0, b1, b2, b3, b4⟩ := XB.out.five
                  obtain ⟨c0, c1, c2, c3, c4⟩ := BC.out.five
                  simp only [LT.proc, LT.state, LT.since, LT.till, LT.ov] at a0 a1 a2 a3 a4 b0 b1 b2 b3 b4 c0 c1 c2 c3 c4
                  go_wp2_with fail
                  go_at_call 10
                  refine (before_at _ _ _ _ _ _ _ _ _ _ _ hAA _).mono ?_
                  rintro e w8 ⟨rfl, hb⟩
                  clear a0 a1 a2 a3 a4 b0 b1 b2 b3 b4 c0 c1 c2 c3 c4
                  replace XA := hid (XA.out.later hb)
                  replace XB := hid (XB.out.later hb)
                  replace BC := hid (BC.out.later hb)
                  replace BWC := hid (BWC.out.trans (hb.mono BWC.out.size))
                  clear hb
                  obtain ⟨a0, a1, a2, a3, a4⟩ := XA.out.five
                  obtain ⟨b0, b1, b2, b3, b4⟩ := XB.out.five
                  obtain ⟨c0, c1, c2, c3, c4⟩ := BC.out.five
                  simp only [LT.proc, LT.state, LT.since, LT.till, LT.ov] at a0 a1 a2 a3 a4 b0 b1 b2 b3 b4 c0 c1 c2 c3 c4
                  go_wp2_with fail
                  go_roundg (m - (k + 1))
                  case measure => omega
                  case rel => exact ⟨k + 1, by omega, by omega, by go_num, BWC.out⟩
            · have hltki : ¬ (k : Int) < (m : Int) := by omega
              go_wp2_with fail
              go_roundg (m - (j + 1))
              case measure => omega
              case rel => exact ⟨j + 1, by omega, by omega, by go_num, BWB.out.trans (BW.out.mono BWB.out.size)⟩
        · have hltji : ¬ (j : Int) < (m : Int) := by omega
          go_wp2_with fail
          go_roundg (m - (i + 1))
          case measure => omega
          case rel => exact ⟨i + 1, by omega, by omega, by go_num, BWA.out.trans (BW.out.mono BWA.out.size)⟩
    · have hlti : ¬ (i : Int) < (m : Int) := by omega
      have BE := hid (before_at 0 1 0 0 (.slice none 0 0) 0 1 1 0 (.slice none 0 0) true (by decide) wr)
      go_wp2_with fail
      go_at_call 10
      refine BE.out.mono ?_
      rintro e w5 ⟨rfl, hb5⟩
      have B5 := hid (B2.out.trans ((BW.out.trans (hb5.mono BW.out.size)).mono B2.out.size))
      clear hb5
      go_wp2_with fail
      go_ret
      exact ⟨rfl, B5.out⟩
end Go.Proofs.Ytbcegdiabnapkaa
