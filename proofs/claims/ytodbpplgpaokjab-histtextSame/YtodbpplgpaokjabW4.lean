/-
  Walks of the reference's functions that compare operations and histories.
-/
import Derived.Test.YtodbpplgpaokjabW3
import Derived.RegionTactic
import Derived.BigRegion
import Derived.Deep.Cut
import Derived.Deep.CutRange
namespace Go.Proofs.Ytodbpplgpaokjab
open Go.RowKit

theorem opEq_no (X Y : MOp) (h : (X.kind != Y.kind) = true ∨ (X.key.toList == Y.key.toList) = false ∨ (X.value != Y.value) = true ∨ (X.has == Y.has) = false ∨ (X.nl == Y.nl) = false) : opEq X Y = false := by
  unfold opEq
  rcases h with h | h | h | h | h <;> (try simp only [bne, Bool.not_eq_true'] at h) <;> simp only [h, Bool.false_and, Bool.and_false]
theorem opEq_yes (X Y : MOp) (h1 : (X.kind != Y.kind) = false) (h2 : (X.key.toList == Y.key.toList) = true) (h3 : (X.value != Y.value) = false) (h4 : (X.has == Y.has) = true) (h5 : (X.nl == Y.nl) = true) : opEq X Y = intsEq X.list Y.list := by
  unfold opEq
  simp only [bne, Bool.not_eq_false'] at h1 h3
  rw [h1, h2, h3, h4, h5]; rfl

set_option maxHeartbeats 4000000 in
theorem refOps_walk {S T : Nat → Prop} (a1 a2 : Option Addr) (c1 c2 n : Nat) (xs ys : List MOp) (w : World) (hx : xs.length = n) (hy : ys.length = n) (_hbig : n ≤ 9223372036854775807)
    (h1 : RowCells 6 (OpRow S w) w a1 xs n) (h2 : RowCells 6 (OpRow T w) w a2 ys n) :
    Calls Try.prog 9 #[.slice a1 n c1, .slice a2 n c2] w fun e w' => e = .returned (.bool (opsEq xs ys)) ∧ Below w.heap.size w w' := by
  have HX : Hid (xs.length = n) := hx
  have HY : Hid (ys.length = n) := hy
  clear hx hy
  go_enter Try.func9, Try.ntmps9
  go_wp2
  go_loopg [5, 6, 7, 15] n (fun g _ _ _ i wr => ∃ k : Nat, k ≤ n ∧ n - k ≤ g ∧ i = .int .i64 k ∧ Aside (Below w.heap.size w wr) ∧ Aside (∀ j, j < k → opEq (xs.getD j default) (ys.getD j default) = true))
  case atStart => exact ⟨0, Nat.zero_le _, by omega, rfl, Below.refl _ _, fun j hj => absurd hj (Nat.not_lt_zero _)⟩
  case round =>
    obtain ⟨k, hk, hg, rfl, BW, A⟩ := hrel
    by_cases hlt : k < n
    · have hlti : (k : Int) < (n : Int) := by omega
      obtain ⟨b1, o1, cs1, rfl, hb1, _, ⟨l1, rfl, i1⟩, k1⟩ := h1 k hlt
      obtain ⟨b2, o2, cs2, rfl, hb2, _, ⟨l2, rfl, i2⟩, k2⟩ := h2 k hlt
      clear h1 h2
      have d0 : wr.cell? ⟨b1, o1 + k * 6, none⟩ = _ := (BW.out.cell (p := ⟨b1, o1 + k * 6, none⟩) hb1).trans (k1 0 _ rfl)
      have d1 := (BW.out.cell (p := ⟨b1, o1 + k * 6 + 1, none⟩) hb1).trans (k1 1 _ rfl)
      have d2 := (BW.out.cell (p := ⟨b1, o1 + k * 6 + 2, none⟩) hb1).trans (k1 2 _ rfl)
      have d3 := (BW.out.cell (p := ⟨b1, o1 + k * 6 + 3, none⟩) hb1).trans (k1 3 _ rfl)
      have d4 := (BW.out.cell (p := ⟨b1, o1 + k * 6 + 4, none⟩) hb1).trans (k1 4 _ rfl)
      have d5 := (BW.out.cell (p := ⟨b1, o1 + k * 6 + 5, none⟩) hb1).trans (k1 5 _ rfl)
      have e0 : wr.cell? ⟨b2, o2 + k * 6, none⟩ = _ := (BW.out.cell (p := ⟨b2, o2 + k * 6, none⟩) hb2).trans (k2 0 _ rfl)
      have e1 := (BW.out.cell (p := ⟨b2, o2 + k * 6 + 1, none⟩) hb2).trans (k2 1 _ rfl)
      have e2 := (BW.out.cell (p := ⟨b2, o2 + k * 6 + 2, none⟩) hb2).trans (k2 2 _ rfl)
      have e3 := (BW.out.cell (p := ⟨b2, o2 + k * 6 + 3, none⟩) hb2).trans (k2 3 _ rfl)
      have e4 := (BW.out.cell (p := ⟨b2, o2 + k * 6 + 4, none⟩) hb2).trans (k2 4 _ rfl)
      have e5 := (BW.out.cell (p := ⟨b2, o2 + k * 6 + 5, none⟩) hb2).trans (k2 5 _ rfl)
      clear k1 k2
      have hsz := BW.out.size
      have hb1r : b1 < wr.heap.size := Nat.lt_of_lt_of_le hb1 hsz
      have hb2r : b2 < wr.heap.size := Nat.lt_of_lt_of_le hb2 hsz
      have hne1 : b1 ≠ wr.heap.size := by omega
      have hne2 : b2 ≠ wr.heap.size := by omega
      have j1 := i1.keep (keeps_below BW.out) (fun _ _ h => h)
      have j2 := i2.keep (keeps_below BW.out) (fun _ _ h => h)
      clear i1 i2
      generalize hX : xs.getD k default = X at *
      generalize hY : ys.getD k default = Y at *
      have HX' := hid hX
      have HY' := hid hY
      clear hX hY
      obtain ⟨al1, cl1, rfl, -⟩ := id j1
      obtain ⟨al2, cl2, rfl, -⟩ := id j2
      go_wp2_with fail
      go_cut [6, 7] from 16 to 67 (fun p q wc => ∃ g1 g2 : Nat, p = .pointer (some ⟨g1, 0, none⟩) ∧ q = .pointer (some ⟨g2, 0, none⟩) ∧ Below wr.heap.size wr wc ∧
        (wc.cell? ⟨g1, 0, none⟩ = some (.int .i64 X.kind) ∧ wc.cell? ⟨g1, 1, none⟩ = some (.string X.key) ∧ wc.cell? ⟨g1, 2, none⟩ = some (.int .i64 X.value) ∧ wc.cell? ⟨g1, 3, none⟩ = some (.slice al1 X.list.length cl1) ∧ wc.cell? ⟨g1, 4, none⟩ = some (.bool X.has) ∧ wc.cell? ⟨g1, 5, none⟩ = some (.bool X.nl)) ∧
        (wc.cell? ⟨g2, 0, none⟩ = some (.int .i64 Y.kind) ∧ wc.cell? ⟨g2, 1, none⟩ = some (.string Y.key) ∧ wc.cell? ⟨g2, 2, none⟩ = some (.int .i64 Y.value) ∧ wc.cell? ⟨g2, 3, none⟩ = some (.slice al2 Y.list.length cl2) ∧ wc.cell? ⟨g2, 4, none⟩ = some (.bool Y.has) ∧ wc.cell? ⟨g2, 5, none⟩ = some (.bool Y.nl)))
      case first =>
        go_region
        all_goals (try go_wp2_with fail)
        all_goals go_meet
        all_goals refine ⟨_, _, rfl, rfl, ?_, ?_, ?_⟩
        all_goals first | exact ((((Below.refl _ wr).alloc (Nat.le_refl _) _).alloc (by simp) _).drew) | (refine ⟨?_, ?_, ?_, ?_, ?_, ?_⟩ <;> simp)
      case rest =>
        obtain ⟨g1, g2, rfl, rfl, hb, ⟨x0, x1, x2, x3, x4, x5⟩, ⟨y0, y1, y2, y3, y4, y5⟩⟩ := hcut
        clear d0 d1 d2 d3 d4 d5 e0 e1 e2 e3 e4 e5
        have hbw : Below w.heap.size w wc := BW.out.trans (hb.mono hsz)
        have H := hid (sameList_any _ _ X.list Y.list wc (j1.keep (keeps_below hb) (fun _ _ h => h)) (j2.keep (keeps_below hb) (fun _ _ h => h)))
        have HB := hid hbw
        have hsz2 := hbw.size
        clear j1 j2 hb hbw
        obtain ⟨xk, xs1, xv, xl, xh, xn⟩ := X
        obtain ⟨yk, ys1, yv, yl, yh, yn⟩ := Y
        simp only [MOp.kind, MOp.key, MOp.value, MOp.list, MOp.has, MOp.nl] at *
        cases q1 : (xk != yk)
        rotate_left
        · go_wp2_with fail
          go_ret
          refine ⟨?_, HB.out⟩
          rw [show opsEq xs ys = false from allEq_miss _ xs ys k (by rw [HX.out]; exact hlt) (by rw [HX'.out, HY'.out]; exact opEq_no _ _ (.inl q1))]
          rfl
        cases q2 : (xs1.toList == ys1.toList)
        · go_wp2_with fail
          go_ret
          refine ⟨?_, HB.out⟩
          rw [show opsEq xs ys = false from allEq_miss _ xs ys k (by rw [HX.out]; exact hlt) (by rw [HX'.out, HY'.out]; exact opEq_no _ _ (.inr (.inl q2)))]
          rfl
        cases q3 : (xv != yv)
        rotate_left
        · go_wp2_with fail
          go_ret
          refine ⟨?_, HB.out⟩
          rw [show opsEq xs ys = false from allEq_miss _ xs ys k (by rw [HX.out]; exact hlt) (by rw [HX'.out, HY'.out]; exact opEq_no _ _ (.inr (.inr (.inl q3))))]
          rfl
        cases q4 : (xh == yh)
        · go_wp2_with fail
          go_ret
          refine ⟨?_, HB.out⟩
          rw [show opsEq xs ys = false from allEq_miss _ xs ys k (by rw [HX.out]; exact hlt) (by rw [HX'.out, HY'.out]; exact opEq_no _ _ (.inr (.inr (.inr (.inl q4)))))]
          rfl
        cases q5 : (xn == yn)
        · go_wp2_with fail
          go_ret
          refine ⟨?_, HB.out⟩
          rw [show opsEq xs ys = false from allEq_miss _ xs ys k (by rw [HX.out]; exact hlt) (by rw [HX'.out, HY'.out]; exact opEq_no _ _ (.inr (.inr (.inr (.inr q5)))))]
          rfl
        have HE := hid (opEq_yes ⟨xk, xs1, xv, xl, xh, xn⟩ ⟨yk, ys1, yv, yl, yh, yn⟩ q1 q2 q3 q4 q5)
        generalize hq : intsEq xl yl = r at H
        have HQ := hid hq
        clear hq
        cases r with
        | false =>
          go_wp2_with (go_at_call 13; refine H.out.mono ?_; rintro e w' ⟨rfl, hb⟩)
          go_ret
          refine ⟨?_, HB.out.trans (hb.mono hsz2)⟩
          rw [show opsEq xs ys = false from allEq_miss _ xs ys k (by rw [HX.out]; exact hlt) (by rw [HX'.out, HY'.out]; exact HE.out.trans HQ.out)]
          rfl
        | true =>
          go_wp2_with (go_at_call 13; refine H.out.mono ?_; rintro e w' ⟨rfl, hb⟩)
          go_roundg (n - (k + 1))
          case measure => omega
          case rel =>
            refine ⟨k + 1, by omega, by omega, by go_num, HB.out.trans (hb.mono hsz2), (show Aside _ from fun j hj => ?_)⟩
            by_cases e : j = k
            · subst e; rw [HX'.out, HY'.out]; exact HE.out.trans HQ.out
            · exact A.out j (by omega)
    · go_wp2
      go_ret
      refine ⟨?_, BW.out⟩
      rw [show opsEq xs ys = true from allEq_hit _ xs ys (by rw [HX.out, HY.out]) (fun j hj => A.out j (by rw [HX.out] at hj; omega))]
      rfl
end Go.Proofs.Ytodbpplgpaokjab
