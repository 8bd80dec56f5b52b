/-
  assayerplain.Spoil writes into the blocks of what it is given, and nowhere else.
-/
import Derived.Test.YtibplfhkfkeloaaTb0
import Derived.Laws.Concat
import Derived.Deep.Cut
namespace Go.Proofs.Ytibplfhkfkeloaa
set_option linter.unusedVariables false
set_option linter.unusedSimpArgs false
open Go.RowKit Go.Lib
open Tx (Soft)

/-- A list that may be written. -/
def SpL (P : Nat → Prop) (w : World) (lv : Value) : Prop := ∃ la m lc, lv = .slice la m lc ∧ m ≤ 140737488355328 ∧ m ≤ lc ∧ ∀ j, j < m → ∃ lb lo x, la = some ⟨lb, lo, none⟩ ∧ P lb ∧ Soft w lb ∧ w.cell? ⟨lb, lo + j, none⟩ = some (.int .i64 x)
/-- Operations that may be written. -/
def SpO (P : Nat → Prop) (w : World) (ov : Value) : Prop := ∃ oa n oc, ov = .slice oa n oc ∧ n ≤ 10 ∧ n ≤ oc ∧ ∀ k, k < n → ∃ ob key val lv, oa = some ⟨ob, 0, none⟩ ∧ P ob ∧ Soft w ob ∧ w.cell? ⟨ob, k * 6 + 1, none⟩ = some (.string key) ∧ key.size ≤ 281474976710656 ∧ w.cell? ⟨ob, k * 6 + 2, none⟩ = some (.int .i64 val) ∧ w.cell? ⟨ob, k * 6 + 3, none⟩ = some lv ∧ SpL P w lv
/-- Transactions that may be written. -/
def SpT (P : Nat → Prop) (w : World) (v : Value) (N : Nat) : Prop := ∃ ta c, v = .slice ta N c ∧ N ≤ 1000 ∧ N ≤ c ∧ ∀ i, i < N → ∃ tb st ov, ta = some ⟨tb, 0, none⟩ ∧ P tb ∧ Soft w tb ∧ w.cell? ⟨tb, i * 5 + 1, none⟩ = some (.int .i64 st) ∧ w.cell? ⟨tb, i * 5 + 4, none⟩ = some ov ∧ SpO P w ov

theorem gro_set {P : Nat → Prop} {w w' : World} (h : Gro P w w') {p : Addr} (hp : P p.block) (v : Value) : Gro P w (w'.setCell p v) :=
  ⟨h.os, h.tape, h.output, by have := h.size; simp [World.setCell]; omega, fun b hb hn => (set_ne (fun e : b = p.block => hn (by rw [e]; exact hp))).trans (h.block b hb hn)⟩
/-- Each cell keeps its kind; what lies ahead of B is as it was. -/
structure Sp (P : Nat → Prop) (M : Nat) (w w' : World) : Prop where
  bel : Gro P w w'
  fz : ∀ p, w'.frozen? p = w.frozen? p
  int : ∀ p n, w.cell? p = some (.int .i64 n) → ∃ m, w'.cell? p = some (.int .i64 m)
  str : ∀ p s, w.cell? p = some (.string s) → ∃ t : ByteArray, w'.cell? p = some (.string t) ∧ t.size ≤ s.size + M
  sli : ∀ p a n c, w.cell? p = some (.slice a n c) → w'.cell? p = some (.slice a n c)
theorem Sp.refl (P : Nat → Prop) (w : World) : Sp P 0 w w := ⟨⟨rfl, rfl, rfl, Nat.le_refl _, fun _ _ _ => rfl⟩, fun _ => rfl, fun _ n h => ⟨n, h⟩, fun _ s h => ⟨s, h, Nat.le_refl _⟩, fun _ _ _ _ h => h⟩
theorem Sp.more {P : Nat → Prop} {M M' : Nat} {w w' : World} (h : Sp P M w w') (hM : M ≤ M') : Sp P M' w w' := ⟨h.bel, h.fz, h.int, fun p s hp => by obtain ⟨t, h1, h2⟩ := h.str p s hp; exact ⟨t, h1, by omega⟩, h.sli⟩
theorem Sp.setI {P : Nat → Prop} {M : Nat} {w w' : World} (h : Sp P M w w') (p : Addr) (hp : P p.block) (n m : Int) (hc : w.cell? p = some (.int .i64 n)) : Sp P M w (w'.setCell p (.int .i64 m)) := by
  obtain ⟨x, hx⟩ := h.int p n hc
  refine ⟨gro_set h.bel hp _, fun q => by rw [World.frozen?_setCell]; exact h.fz q, fun q k hq => ?_, fun q s hq => ?_, fun q a k c hq => ?_⟩
  · by_cases e : p = q
    · subst e; exact ⟨m, World.cell?_setCell_same _ _ _ hx⟩
    · rw [World.cell?_setCell_other _ _ _ _ e]; exact h.int q k hq
  · rw [World.cell?_setCell_other _ _ _ _ (fun e => by subst e; rw [hc] at hq; cases hq)]; exact h.str q s hq
  · rw [World.cell?_setCell_other _ _ _ _ (fun e => by subst e; rw [hc] at hq; cases hq)]; exact h.sli q a k c hq
theorem Sp.setS {P : Nat → Prop} {M : Nat} {w w' : World} (h : Sp P M w w') (p : Addr) (hp : P p.block) (s t t' : ByteArray) (hc : w.cell? p = some (.string s)) (hc' : w'.cell? p = some (.string t)) (ht : t'.size ≤ t.size + 1) : Sp P (M + 1) w (w'.setCell p (.string t')) := by
  refine ⟨gro_set h.bel hp _, fun q => by rw [World.frozen?_setCell]; exact h.fz q, fun q k hq => ?_, fun q u hq => ?_, fun q a k c hq => ?_⟩
  · rw [World.cell?_setCell_other _ _ _ _ (fun e => by subst e; rw [hc] at hq; cases hq)]; exact h.int q k hq
  · obtain ⟨x, h1, h2⟩ := h.str q u hq
    by_cases e : p = q
    · subst e
      rw [hc'] at h1
      cases h1
      exact ⟨t', World.cell?_setCell_same _ _ _ hc', by omega⟩
    · rw [World.cell?_setCell_other _ _ _ _ e]; exact ⟨x, h1, by omega⟩
  · rw [World.cell?_setCell_other _ _ _ _ (fun e => by subst e; rw [hc] at hq; cases hq)]; exact h.sli q a k c hq

set_option maxHeartbeats 16000000 in
set_option maxRecDepth 100000 in
theorem spoil_is (P : Nat → Prop) (w : World) (v : Value) (N : Nat) (h : SpT P w v N) :
    Calls Try.prog 10 #[v] w fun e w' => e = .returned (.tuple #[]) ∧ Gro P w w' := by
  obtain ⟨ta, tc, rfl, hN, hNc, hT⟩ := h
  have HT := hid hT
  have hNi : (N : Int) ≤ 1000 := by omega
  clear hT
  go_enter Try.func10, Try.ntmps10
  go_wp2_with fail
  go_loopg [2, 3, 4, 7] N (fun gg _ _ _ i wr => ∃ k : Nat, k ≤ N ∧ N - k ≤ gg ∧ i = .int .i64 k ∧ Aside (Sp P (10 * k) w wr))
  case atStart => exact ⟨0, Nat.zero_le _, by omega, rfl, Sp.refl _ _⟩
  case round =>
    obtain ⟨k, hk, hgk, rfl, SR⟩ := hrel
    by_cases hlt : k < N
    · have hlti : (k : Int) < N := by omega
      obtain ⟨tb, st, ov, rfl, hBt, hsf, d1, d4, oa, n, oc, rfl, hn, hnc, hO⟩ := HT.out k hlt
      have HO := hid hO
      have D1 := hid d1
      have D4 := hid d4
      have FT : Hid (∀ o, w.frozen? ⟨tb, o, none⟩ = false) := hsf
      have e4 := SR.out.sli _ _ _ _ d4
      have hni : (n : Int) ≤ 10 := by omega
      clear hO d1 d4 hsf
      go_wp2_with fail
      go_loopg [3, 4, 16] n (fun gg _ _ i wi => ∃ j : Nat, j ≤ n ∧ n - j ≤ gg ∧ i = .int .i64 j ∧ Aside (Sp P (10 * k + j) w wi))
      case atStart => exact ⟨0, Nat.zero_le _, by omega, rfl, SR.out⟩
      case round =>
        clear SR e4
        obtain ⟨j, hj, hgj, rfl, SJ⟩ := hrel
        have e4 := SJ.out.sli _ _ _ _ D4.out
        by_cases hjl : j < n
        · have hjli : (j : Int) < n := by omega
          obtain ⟨ob, key, val, lv, rfl, hBo, hso, x1, hks, x2, x3, la, m, lc, rfl, hm, hmc, hL⟩ := HO.out j hjl
          have HL := hid hL
          have X1 := hid x1
          have X2 := hid x2
          have X3 := hid x3
          have FO : Hid (∀ o, w.frozen? ⟨ob, o, none⟩ = false) := hso
          have y3 := SJ.out.sli _ _ _ _ x3
          have hmi : (m : Int) ≤ 140737488355328 := by omega
          clear hL x1 x2 x3 hso
          go_wp2_with fail
          go_loopg [4, 29] m (fun gg _ i wq => ∃ q : Nat, q ≤ m ∧ m - q ≤ gg ∧ i = .int .i64 q ∧ Aside (Sp P (10 * k + j) w wq))
          case atStart => exact ⟨0, Nat.zero_le _, by omega, rfl, SJ.out⟩
          case round =>
            clear SJ e4 y3
            obtain ⟨q, hq, hgq, rfl, SQ⟩ := hrel
            have e4 := SQ.out.sli _ _ _ _ D4.out
            have y3 := SQ.out.sli _ _ _ _ X3.out
            by_cases hql : q < m
            · have hqli : (q : Int) < m := by omega
              obtain ⟨lb, lo, x, rfl, hBl, hsl, z⟩ := HL.out q hql
              have Z := hid z
              obtain ⟨x', z'⟩ := SQ.out.int _ _ z
              have f1 : wr.frozen? ⟨lb, lo + q, none⟩ = false := (SQ.out.fz _).trans (hsl _)
              clear z hsl
              go_wp2_with fail
              go_roundg (m - (q + 1))
              case measure => omega
              case rel => exact ⟨q + 1, by omega, by omega, by go_num, SQ.out.setI _ hBl _ _ Z.out⟩
            · obtain ⟨x', z'⟩ := SQ.out.int _ _ X2.out
              have f1 : wr.frozen? ⟨ob, j * 6 + 2, none⟩ = false := (SQ.out.fz _).trans (FO.out _)
              have NX : Hid (∀ y, Sp P (10 * k + j) w (wr.setCell ⟨ob, j * 6 + 2, none⟩ (.int .i64 y))) := fun y => SQ.out.setI _ hBo _ _ X2.out
              clear SQ
              go_upto_region 12 with fail
              generalize hW : wr.setCell ⟨ob, j * 6 + 2, none⟩ _ = W
              have SW : Hid (Sp P (10 * k + j) w W) := by rw [← hW]; exact NX.out _
              clear hW NX e4 y3 z' f1
              have e4 := SW.out.sli _ _ _ _ D4.out
              obtain ⟨t, z1, ht⟩ := SW.out.str _ _ X1.out
              have f2 : W.frozen? ⟨ob, j * 6 + 1, none⟩ = false := (SW.out.fz _).trans (FO.out _)
              have SA : ∀ w, Sem.run Try.prog (Op.stringOp .add t ⟨#[122]⟩) w = .ok (.string (t ++ ⟨#[122]⟩)) w := fun w => run_string_add_sum w _ _ (by show t.size + 1 ≤ _; omega)
              have NX : Hid (Sp P (10 * k + (j + 1)) w (W.setCell ⟨ob, j * 6 + 1, none⟩ (.string (t ++ ⟨#[122]⟩)))) := SW.out.setS _ hBo _ _ _ X1.out z1 (by rw [ByteArray.size_append]; exact Nat.le_refl _)
              go_wp2_with fail
              go_roundg (n - (j + 1))
              case measure => omega
              case rel => exact ⟨j + 1, by omega, by omega, by go_num, NX.out⟩
        · obtain ⟨x', z'⟩ := SJ.out.int _ _ D1.out
          have f1 : wr.frozen? ⟨tb, k * 5 + 1, none⟩ = false := (SJ.out.fz _).trans (FT.out _)
          go_wp2_with fail
          go_roundg (N - (k + 1))
          case measure => omega
          case rel => exact ⟨k + 1, by omega, by omega, by go_num, (SJ.out.setI _ hBt _ _ D1.out).more (by omega)⟩
    · go_wp2_with fail
      exact bodyPost_end (results_none rfl _ _ _) rfl ⟨rfl, SR.out.bel⟩
end Go.Proofs.Ytibplfhkfkeloaa
