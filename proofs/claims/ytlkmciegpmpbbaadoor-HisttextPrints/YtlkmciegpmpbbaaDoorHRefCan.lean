/-
  Walk of the reference's Can.
-/
import Derived.Test.YtlkmciegpmpbbaaDoorHCan2
import Derived.Test.YtlkmciegpmpbbaaDoorHMay
namespace Go.Proofs.YtlkmciegpmpbbaaDoor
set_option linter.unusedVariables false
set_option linter.unusedSimpArgs false
open Go.RowKit

/-- Keys of no more bytes than an int tells. -/
def KeysFit (l : List MEv) : Prop := ∀ e ∈ l, ∀ o ∈ e.ops, o.key.size ≤ 9223372036854775806

theorem mem_at {α : Type} [Inhabited α] {l : List α} {k : Nat} (h : k < l.length) : l.getD k default ∈ l := by
  simp [List.getD, List.getElem?_eq_getElem h]

set_option maxHeartbeats 8000000 in
set_option maxRecDepth 100000 in
/-- The reference's Can. -/
theorem refCan_any {S : Nat → Prop} (v : Value) (l : List MEv) (w : World) (hk0 : KeysFit l) (h : EvsIn S w v l) :
    Calls Tryd.prog 6 #[v] w fun e w' => e = .returned (.bool (canM l)) ∧ Below w.heap.size w w' := by
  have HKF := hid hk0
  clear hk0
  obtain ⟨a1, c1, rfl, hbig, k0⟩ := RowsIn.cells h (by omega)
  have HC := hid k0
  clear h k0
  by_cases f1 : 300 < l.length
  · have f1i : 300 < ((l.length : Nat) : Int) := by omega
    have N := hid (can_long f1)
    go_enter Tryd.func6, Tryd.ntmps6
    go_wp2_with fail
    go_ret
    exact ⟨ret_b N.out, Below.refl _ _⟩
  have f1i : ¬ 300 < ((l.length : Nat) : Int) := by omega
  go_enter Tryd.func6, Tryd.ntmps6
  go_wp2_with fail
  clear f1i
  go_loopg [12] l.length (fun g i wr => ∃ k : Nat, k ≤ l.length ∧ l.length - k ≤ g ∧ i = .int .i64 k ∧ Aside (Below w.heap.size w wr) ∧ Aside (∀ j, j < k → evOk (l.getD j default) = true))
  case atStart => exact ⟨0, Nat.zero_le _, by omega, rfl, Below.refl _ _, fun j hj => absurd hj (Nat.not_lt_zero _)⟩
  case round =>
    obtain ⟨k, hk, hg, rfl, BW, A⟩ := hrel
    by_cases hlt : k < l.length
    · have hlti : (k : Int) < (l.length : Int) := by omega
      obtain ⟨b1, o1, cs1, rfl, hb1, _, ⟨ov, rfl, i1⟩, k1⟩ := HC.out k hlt
      have d0 : wr.cell? ⟨b1, o1 + k * 3, none⟩ = _ := (BW.out.cell (p := ⟨b1, o1 + k * 3, none⟩) hb1).trans (k1 0 _ rfl)
      have d1 := (BW.out.cell (p := ⟨b1, o1 + k * 3 + 1, none⟩) hb1).trans (k1 1 _ rfl)
      have d2 := (BW.out.cell (p := ⟨b1, o1 + k * 3 + 2, none⟩) hb1).trans (k1 2 _ rfl)
      clear k1
      have hsz := BW.out.size
      have HBx : Hid (∀ o, Below w.heap.size w (wr.alloc o)) := fun o => BW.out.trans ((below_box wr o).mono hsz)
      have KF := hid (HKF.out _ (mem_at hlt))
      obtain ⟨oa, oc, rfl, _, ro⟩ := RowsIn.cells i1 (by omega)
      have RO := hid ro
      clear i1 ro
      generalize hX : l.getD k default = X at *
      have HX' := hid hX
      clear hX
      obtain ⟨ek, ep, xs⟩ := X
      simp only [MEv.kind, MEv.proc, MEv.ops] at *
      by_cases g1 : ek < 1
      · skip
        have N := hid (can_miss hlt (by rw [HX'.out]; exact ev_no (fun h => by have := h.1; simp only [MEv.kind] at this; omega)))
        go_wp2_with fail
        go_ret
        exact ⟨ret_b N.out, HBx.out _⟩
      by_cases g2 : 4 < ek
      · skip
        have N := hid (can_miss hlt (by rw [HX'.out]; exact ev_no (fun h => by have := h.2.1; simp only [MEv.kind] at this; omega)))
        go_wp2_with fail
        go_ret
        exact ⟨ret_b N.out, HBx.out _⟩
      by_cases g3 : ep < 0
      · skip
        have N := hid (can_miss hlt (by rw [HX'.out]; exact ev_no (fun h => by have := h.2.2.1; simp only [MEv.proc] at this; omega)))
        go_wp2_with fail
        go_ret
        exact ⟨ret_b N.out, HBx.out _⟩
      by_cases g4 : 99 < ep
      · skip
        have N := hid (can_miss hlt (by rw [HX'.out]; exact ev_no (fun h => by have := h.2.2.2.1; simp only [MEv.proc] at this; omega)))
        go_wp2_with fail
        go_ret
        exact ⟨ret_b N.out, HBx.out _⟩
      by_cases g5 : xs.length < 1
      · have g5i : ((xs.length : Nat) : Int) < 1 := by omega
        have N := hid (can_miss hlt (by rw [HX'.out]; exact ev_no (fun h => by have := h.2.2.2.2.1; simp only [MEv.ops] at this; omega)))
        go_wp2_with fail
        go_ret
        exact ⟨ret_b N.out, HBx.out _⟩
      have g5i : ¬ ((xs.length : Nat) : Int) < 1 := by omega
      by_cases g6 : 8 < xs.length
      · have g6i : 8 < ((xs.length : Nat) : Int) := by omega
        have N := hid (can_miss hlt (by rw [HX'.out]; exact ev_no (fun h => by have := h.2.2.2.2.2; simp only [MEv.ops] at this; omega)))
        go_wp2_with fail
        go_ret
        exact ⟨ret_b N.out, HBx.out _⟩
      have g6i : ¬ 8 < ((xs.length : Nat) : Int) := by omega
      have HH : Hid (evHead (ek, ep, xs)) := ⟨by simp only [MEv.kind]; omega, by simp only [MEv.kind]; omega, by simp only [MEv.proc]; omega, by simp only [MEv.proc]; omega, by simp only [MEv.ops]; omega, by simp only [MEv.ops]; omega⟩
      go_wp2_with fail
      clear g1 g2 g3 g4 g5 g6 g5i g6i d0 d1 d2
      go_loopg [49] xs.length (fun g i wq => ∃ q : Nat, q ≤ xs.length ∧ xs.length - q ≤ g ∧ i = .int .i64 q ∧ Aside (Below w.heap.size w wq) ∧ Aside (∀ j, j < q → opKey (xs.getD j default) = true))
      case atStart => exact ⟨0, Nat.zero_le _, by omega, rfl, HBx.out _, fun j hj => absurd hj (Nat.not_lt_zero _)⟩
      case round =>
        obtain ⟨q, hq, hgq, rfl, BQ, AQ⟩ := hrel
        by_cases hlq : q < xs.length
        · have hlqi : (q : Int) < (xs.length : Int) := by omega
          obtain ⟨b2, o2, cs2, rfl, hb2, _, ⟨l1, rfl, i1⟩, k1⟩ := RO.out q hlq
          have e0 : wr.cell? ⟨b2, o2 + q * 6, none⟩ = _ := (BQ.out.cell (p := ⟨b2, o2 + q * 6, none⟩) hb2).trans (k1 0 _ rfl)
          have e1 := (BQ.out.cell (p := ⟨b2, o2 + q * 6 + 1, none⟩) hb2).trans (k1 1 _ rfl)
          have e2 := (BQ.out.cell (p := ⟨b2, o2 + q * 6 + 2, none⟩) hb2).trans (k1 2 _ rfl)
          have e3 := (BQ.out.cell (p := ⟨b2, o2 + q * 6 + 3, none⟩) hb2).trans (k1 3 _ rfl)
          have e4 := (BQ.out.cell (p := ⟨b2, o2 + q * 6 + 4, none⟩) hb2).trans (k1 4 _ rfl)
          have e5 := (BQ.out.cell (p := ⟨b2, o2 + q * 6 + 5, none⟩) hb2).trans (k1 5 _ rfl)
          clear k1
          have hsq := BQ.out.size
          have kf := KF.out _ (mem_at hlq)
          obtain ⟨al1, cl1, rfl, -⟩ := id i1
          have J1 : Hid (∀ o, IntsIn Any (wr.alloc o) _ (xs.getD q default).list) := fun o => i1.keep (keeps_below (BQ.out.trans ((below_box wr o).mono hsq))) (fun _ _ _ => trivial)
          clear i1
          generalize hY : xs.getD q default = Y at *
          have HY' := hid hY
          have KY := hid kf
          clear hY kf
          go_wp2_with fail
          refine (mayOp_any Y _ _ (J1.out _) KY.out).mono ?_
          rintro e w5 ⟨rfl, b5⟩
          have HB5 : Hid (Below w.heap.size w w5) := BQ.out.trans (((below_box wr _).trans (b5.mono (by simp))).mono hsq)
          clear b5
          have ho : opKey Y = (keyOk Y.key && opOk Y) := rfl
          rw [← ho]
          clear ho
          cases q1 : opKey Y with
          | false =>
            have N := hid (can_miss hlt (by rw [HX'.out]; exact ev_miss (k := q) hlq (by show opKey (xs.getD q default) = false; rw [HY'.out]; exact q1)))
            go_wp2_with fail
            go_ret
            exact ⟨ret_b N.out, HB5.out⟩
          | true =>
            go_wp2_with fail
            go_roundg (xs.length - (q + 1))
            case measure => omega
            case rel =>
              refine ⟨q + 1, by omega, by omega, by go_num, HB5.out, (show Aside _ from fun j hj => ?_)⟩
              by_cases e : j = q
              · subst e; rw [HY'.out]; exact q1
              · exact AQ.out j (by omega)
        · have N := hid (ev_hit (e := (ek, ep, xs)) HH.out (fun j hj => AQ.out j (by simp only [MEv.ops] at hj; omega)))
          go_wp2_with fail
          go_roundg (l.length - (k + 1))
          case measure => omega
          case rel =>
            refine ⟨k + 1, by omega, by omega, by go_num, BQ.out, (show Aside _ from fun j hj => ?_)⟩
            by_cases e : j = k
            · subst e; rw [HX'.out]; exact N.out
            · exact A.out j (by omega)
    · have N := hid (can_hit (l := l) (by omega) (fun j hj => A.out j (by omega)))
      go_wp2_with fail
      go_ret
      exact ⟨ret_b N.out, BW.out⟩
end Go.Proofs.YtlkmciegpmpbbaaDoor
