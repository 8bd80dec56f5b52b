/-
  The walks of Before and of 'right'.
-/
import Derived.Test.YtbcegdiabnapkaaT6
import Derived.Sort.Grow
namespace Go.Proofs.Ytbcegdiabnapkaa
set_option linter.unusedVariables false
set_option linter.unusedSimpArgs false
open Go.RowKit Go.Lib

theorem u64_tmod (n : Int) (m : Nat) (hm : 0 < m) (hm2 : m < 9223372036854775808) : ∃ N : Nat, N < m ∧ wrap64 ((IntKind.u64.wrap n).tmod m) = N := by
  have h0 : 0 ≤ IntKind.u64.wrap n := by simp [IntKind.wrap, IntKind.bits, IntKind.signed]; omega
  have e : (IntKind.u64.wrap n).tmod m = (IntKind.u64.wrap n) % m := Int.tmod_eq_emod_of_nonneg h0
  have h1 : 0 ≤ (IntKind.u64.wrap n) % (m : Int) := Int.emod_nonneg _ (by omega)
  have h2 : (IntKind.u64.wrap n) % (m : Int) < m := Int.emod_lt_of_pos _ (by omega)
  refine ⟨((IntKind.u64.wrap n) % (m : Int)).toNat, by omega, ?_⟩
  rw [e]
  unfold wrap64
  omega

/-- Which of two transactions ended ahead of the other one's beginning. -/
def bef (a b : LT) : Bool := decide (a.state = 1) && decide (b.state = 1) && decide (0 ≤ a.till) && decide (a.till < b.since)
theorem bef_iff (a b : LT) : bef a b = true ↔ a.state = 1 ∧ b.state = 1 ∧ 0 ≤ a.till ∧ a.till < b.since := by simp [bef, and_assoc]

theorem grow_two (w : World) (o p : Obj) : (w.alloc o).alloc p = Sort.grow w #[o, p] := by
  rw [Sort.alloc_eq_grow, Sort.alloc_eq_grow, Sort.grow_grow]
  rfl
theorem below_growS (w : World) (os : Array Obj) : Below w.heap.size w (Sort.grow w os) :=
  ⟨rfl, rfl, rfl, by simp [Sort.grow], fun i hi => by
    show (w.heap ++ os)[i]? = _
    rw [Array.getElem?_append_left hi]⟩

set_option maxHeartbeats 2000000 in
set_option maxRecDepth 100000 in
theorem before_is (a b : LT) (w : World) :
    Calls Try.prog 10 #[.agg (encT a).toArray, .agg (encT b).toArray] w fun e w' => e = .returned (.bool (bef a b)) ∧ ∃ os, w' = Sort.grow w os := by
  obtain ⟨ap, ast, af, att, ao⟩ := a
  obtain ⟨bp, bst, bf, btt, bo⟩ := b
  have HB := hid (bef_iff (ap, ast, af, att, ao) (bp, bst, bf, btt, bo))
  generalize bef (ap, ast, af, att, ao) (bp, bst, bf, btt, bo) = r at *
  simp only [LT.state, LT.till, LT.since, LT.ov, encT] at *
  by_cases h1 : ast = 1
  · by_cases h2 : bst = 1
    · by_cases h3 : 0 ≤ att
      · by_cases h4 : att < bf
        · have hr : r = true := HB.out.2 ⟨h1, h2, h3, h4⟩
          subst hr h1 h2
          clear HB
          go_enter Try.func10, Try.ntmps10
          go_wp2
          go_ret
          exact ⟨rfl, _, grow_two _ _ _⟩
        · have hr : r = false := by cases r with
            | false => rfl
            | true => exact absurd (HB.out.1 rfl).2.2.2 h4
          subst hr h1 h2
          clear HB
          go_enter Try.func10, Try.ntmps10
          go_wp2
          go_ret
          exact ⟨rfl, _, grow_two _ _ _⟩
      · have hr : r = false := by cases r with
          | false => rfl
          | true => exact absurd (HB.out.1 rfl).2.2.1 h3
        have hd : decide (0 ≤ att) = false := decide_eq_false h3
        subst hr h1 h2
        clear HB
        go_enter Try.func10, Try.ntmps10
        go_wp2
        go_ret
        exact ⟨rfl, _, grow_two _ _ _⟩
    · have hr : r = false := by cases r with
        | false => rfl
        | true => exact absurd (HB.out.1 rfl).2.1 h2
      have hq : (bst == 1) = false := by simp [h2]
      subst hr h1
      clear HB
      go_enter Try.func10, Try.ntmps10
      go_wp2
      go_ret
      exact ⟨rfl, _, grow_two _ _ _⟩
  · have hr : r = false := by cases r with
      | false => rfl
      | true => exact absurd (HB.out.1 rfl).1 h1
    have hq : (ast == 1) = false := by simp [h1]
    subst hr
    clear HB
    go_enter Try.func10, Try.ntmps10
    go_wp2
    go_ret
    exact ⟨rfl, _, grow_two _ _ _⟩

/-- It begins at nought or later, and does not end ahead of its beginning. -/
def Rt (t : LT) : Prop := 0 ≤ t.since ∧ t.since ≤ t.till ∧ t.till ≤ 2000

/-- Transactions that are right. -/
def AllRt (w : World) (ao : Option Addr) (m : Nat) : Prop := ∃ f, Lt w ao m f ∧ ∀ j, j < m → Rt (f j)

set_option maxHeartbeats 2000000 in
set_option maxRecDepth 100000 in
theorem right_is (ao : Option Addr) (c n : Nat) (f : Nat → LT) (w : World) (hn : n ≤ 40) (hnc : n ≤ c) (hc : Lt w ao n f) :
    Calls Try.prog 18 #[.slice ao n c] w fun e w' => ∃ ao' c' m, e = .returned (.slice ao' m c') ∧ m ≤ c' ∧ m ≤ 25 ∧ AllRt w' ao' m ∧ Below w.heap.size w w' := by
  obtain ⟨m, hm⟩ : ∃ m, m = min n 25 := ⟨_, rfl⟩
  have hmi : min (n : Int) 25 = (m : Int) := by omega
  have hmn : m ≤ n := by omega
  have hm25 : m ≤ 25 := by omega
  have hmc : (m : Int) ≤ (c : Int) := by omega
  have H1 := hid (hc.take hmn)
  clear hm hc
  go_enter Try.func18, Try.ntmps18
  go_wp2_with fail
  go_at_call 29
  refine (cloneT_any ao c m f w (by omega) H1.out).mono ?_
  rintro e w1 ⟨ao', c', rfl, hcc, hg, hb⟩
  obtain ⟨g, hg⟩ : ∃ g, 0 < m → ao' = some ⟨g, 0, none⟩ ∧ w.heap.size ≤ g ∧ OwnT w1 g m f := by
    by_cases h0 : 0 < m
    · obtain ⟨g, h2⟩ := hg h0
      exact ⟨g, fun _ => h2⟩
    · exact ⟨0, fun h => absurd h h0⟩
  have AO := hid hg
  have B1 := hid hb
  clear hg hb H1 hmi hmc
  go_wp2_with fail
  go_loopg [4, 13] m (fun gg _ i wr => ∃ (k : Nat) (f' : Nat → LT), k ≤ m ∧ m - k ≤ gg ∧ i = .int .i64 k ∧ Aside (Below w.heap.size w wr ∧ (0 < m → OwnT wr g m f') ∧ ∀ j, j < k → Rt (f' j)))
  case atStart => exact ⟨0, f, Nat.zero_le _, by omega, rfl, (⟨B1.out, fun h => (AO.out h).2.2, fun j h => by omega⟩ : _ ∧ _ ∧ _)⟩
  case round =>
    obtain ⟨k, f', hk, hgk, rfl, T⟩ := hrel
    by_cases hlt : k < m
    · have hlti : (k : Int) < (m : Int) := by omega
      obtain ⟨rfl, hgw, -⟩ := AO.out (by omega)
      have O := hid (T.out.2.1 (by omega))
      obtain ⟨c0, c1, c2, c3, c4⟩ := O.out.five k hlt
      have z2 := O.out.1 (k * 5 + 2)
      have z3 : (wr.setCell ⟨g, k * 5 + 2, none⟩ (.int .i64 0)).frozen? ⟨g, k * 5 + 3, none⟩ = false := by rw [World.frozen?_setCell]; exact O.out.1 _
      obtain ⟨N, hN1, hN⟩ := u64_tmod (f' k).since 1000 (by decide) (by decide)
      obtain ⟨M, hM1, hM⟩ := u64_tmod (f' k).till 50 (by decide) (by decide)
      have hN' : wrap64 ((IntKind.u64.wrap (f' k).since).tmod 1000) = (N : Int) := hN
      have hM' : wrap64 ((IntKind.u64.wrap (f' k).till).tmod 50) = (M : Int) := hM
      clear hN hM
      obtain ⟨t, ht⟩ : ∃ t : LT, t = f' k := ⟨_, rfl⟩
      have HT := hid ht
      rw [← ht] at c0 c1 c2 c3 c4 hN' hM'
      clear ht z3
      obtain ⟨tp, tst, tf, tt, to'⟩ := t
      simp only [LT.proc, LT.state, LT.since, LT.till, LT.ov] at c0 c1 c2 c3 c4 hN' hM'
      go_wp2_with fail
      have O2 : Hid (OwnT (wr.setCell ⟨g, k * 5 + 2, none⟩ (.int .i64 N)) g m (fun j => if j = k then (tp, tst, (N : Int), tt, to') else f' j)) := by
        refine OwnT.set O.out hlt _ rfl (by rw [← HT.out]) (by decide) (fun i hi => ?_) rfl
        rw [← HT.out]
        match i, hi with
        | 0, _ => rfl
        | 1, _ => rfl
        | 3, _ => rfl
        | 4, _ => rfl
        | n + 5, _ => rfl
      have B2 : Hid (Below w.heap.size w (wr.setCell ⟨g, k * 5 + 2, none⟩ (.int .i64 N))) := T.out.1.setCell hgw _
      clear c0 c1 c2 c3 c4 z2
      generalize wr.setCell ⟨g, k * 5 + 2, none⟩ (.int .i64 N) = w2 at *
      have O3 := O2.out.five k hlt
      simp only [if_true, LT.proc, LT.state, LT.since, LT.till, LT.ov] at O3
      obtain ⟨c0, c1, c2, c3, c4⟩ := O3
      have z3 := O2.out.1 (k * 5 + 3)
      go_region
      have O4 : Hid (OwnT (w2.setCell ⟨g, k * 5 + 3, none⟩ (.int .i64 ((N : Int) + (M : Int)))).drew g m (fun j => if j = k then (tp, tst, (N : Int), ((N : Int) + (M : Int)), to') else f' j)) := by
        show OwnT _ _ _ _
        refine (OwnT.set (t := (tp, tst, (N : Int), ((N : Int) + (M : Int)), to')) O2.out hlt _ rfl (by simp) (by decide) (fun i hi => ?_) rfl).congr (fun j hj => ?_)
        · simp only [if_true]
          match i, hi with
          | 0, _ => rfl
          | 1, _ => rfl
          | 2, _ => rfl
          | 4, _ => rfl
          | n + 5, _ => rfl
        · by_cases h : j = k
          · rw [if_pos h, if_pos h]
          · rw [if_neg h, if_neg h, if_neg h]
      have B3 : Hid (Below w.heap.size w (w2.setCell ⟨g, k * 5 + 3, none⟩ (.int .i64 ((N : Int) + (M : Int)))).drew) := (B2.out.setCell hgw _).drew
      have R3 : Hid (∀ j, j < k + 1 → Rt ((fun j => if j = k then ((tp, tst, (N : Int), ((N : Int) + (M : Int)), to') : LT) else f' j) j)) := fun j hj => by
        by_cases h : j = k
        · simp only [if_pos h]
          show (0 : Int) ≤ N ∧ (N : Int) ≤ ((N : Int) + (M : Int)) ∧ ((N : Int) + (M : Int)) ≤ 2000
          omega
        · simp only [if_neg h]
          exact T.out.2.2 j (by omega)
      go_wp2_with fail
      go_roundg (m - (k + 1))
      case measure => omega
      case rel => exact ⟨k + 1, _, by omega, by omega, by go_num, (⟨B3.out, fun _ => O4.out, R3.out⟩ : _ ∧ _ ∧ _)⟩
    · have hlti : ¬ (k : Int) < (m : Int) := by omega
      go_wp2_with fail
      go_ret
      have hkm : k = m := by omega
      subst hkm
      refine ⟨ao', c', k, rfl, hcc, hm25, ⟨f', ?_, T.out.2.2⟩, T.out.1⟩
      by_cases h0 : 0 < k
      · rw [(AO.out h0).1]
        exact (T.out.2.1 h0).lt
      · exact fun j hj => by omega
end Go.Proofs.Ytbcegdiabnapkaa
