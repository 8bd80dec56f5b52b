/-
  The law CompsOrders.
-/
import Derived.Test.YtjgmkigfpjmlaaaDoorZC14
import Derived.Test.YtjgmkigfpjmlaaaDoorZO5
namespace Go.Proofs.YtjgmkigfpjmlaaaDoor
set_option linter.unusedVariables false
set_option linter.unusedSimpArgs false
open Go.RowKit

theorem edge_self {L : Nat → Nat → Nat} {labels : Int} (h : ∀ f, L f f = 0) (f : Nat) : edge L labels f f = false := by
  show endsF L f labels 4 f = false
  unfold endsF
  rw [h f]
  simp
set_option maxHeartbeats 8000000 in
set_option maxRecDepth 100000 in
theorem orders_walk (n0 : Int) (ao : Option Addr) (cp : Nat) (es : List (Int × Int × Int)) (labels : Int) (w : World) (hz : ArgE w ao es) (hl : es.length ≤ maxLen) (hT : Tab w) :
    Calls Tryd.prog 4 #[.int .i64 n0, .slice ao es.length cp, .int .i64 labels] w fun e w' => e = .returned (.bool true) ∧ Below w.heap.size w w' := by
  obtain ⟨n, hn, hD0⟩ := u64_tmod n0 60 (by decide) (by decide)
  have hD : (IntKind.u64.wrap n0).tmod 60 = (n : Int) := hD0
  clear hD0
  have DR := hid (drawn_P n0 n hn hD ao cp es w hz hl)
  have TB := hid hT
  have hni : (n : Int) < 60 := by omega
  clear hz hT hD
  go_enter Tryd.func4, Tryd.ntmps4
  go_wp2_with (go_at_call 9; refine DR.out.mono ?_; rintro e w1 ⟨⟨b, b2, rfl, h1⟩, bl⟩; have BO := hid h1; have B1 := hid bl; clear h1 bl)
  obtain ⟨r, bk, ck, v, rw', L, hG, hR, -, -, hS⟩ := BO.out
  have G := hid hG
  have R := hid hR
  have SL := hid hS
  have T1 := hid (TB.out.later B1.out)
  clear hG hR hS BO DR
  go_at_call 14
  refine (order_is b n r bk ck L labels w1 G.out T1.out).mono ?_
  rintro e w2 ⟨⟨v2, l, ok, rfl, i2, io⟩, b2'⟩
  have I2 := hid i2
  have IOx := hid io
  have B2 := hid b2'
  obtain ⟨oa, oc, hv2⟩ := i2.form
  subst hv2
  clear i2 io b2'
  go_wp2_with fail
  go_at_call 15
  refine (rorder_is b2 n v rw' L labels w2 (R.out.later B2.out)).mono ?_
  rintro e w3 ⟨⟨v3, l', ok', rfl, i3, io'⟩, b3⟩
  obtain ⟨rfl, rfl⟩ := io'.uniq IOx.out
  have I3 := hid i3
  have I2' := hid (I2.out.later b3)
  have B3 := hid (B2.out.trans (b3.mono B2.out.size))
  obtain ⟨pa, pc, hv3⟩ := i3.form
  subst hv3
  clear i3 io' b3 I2 B2
  have EQ : Hid (Calls Tryd.prog 13 #[.slice oa l'.length oc, .slice pa l'.length pc] w3 fun e w' => e = .returned (.bool true) ∧ ∃ q, w' = w3.drewN q) := by
    have hll : l'.length ≤ n := by
      rcases IOx.out with ⟨_, _, h2⟩ | ⟨_, h1, _⟩
      · omega
      · rw [h1]; exact Nat.zero_le _
    obtain ⟨a1, c1, e1, r1⟩ := I2'.out.arg
    obtain ⟨a2, c2, e2, r2⟩ := I3.out.arg
    have q := equal_same a1 a2 c1 c2 (l'.map fun x : Nat => (x : Int)) w3 r1 r2 (by rw [List.length_map]; unfold maxLen; omega)
    rw [← e1, ← e2] at q
    exact q
  go_wp2_with fail
  go_at_call 13
  refine EQ.out.mono ?_
  rintro e w4 ⟨rfl, q4, rfl⟩
  have hoo : (ok' == ok') = true := by simp
  have B4 : Hid (Below w1.heap.size w1 (w3.drewN q4)) := below_drewN B3.out q4
  have CY := hid (cyclic_is b n r bk ck L labels (w3.drewN q4) (G.out.later B4.out) (T1.out.later B4.out))
  clear EQ I2' I3
  generalize w3.drewN q4 = w5 at *
  go_wp2_with fail
  go_at_call 16
  refine CY.out.mono ?_
  rintro e w6 ⟨⟨cs, rfl, hc⟩, b6⟩
  rw [IOx.out.great hc (edge_self SL.out)]
  have hno : ((!ok') == (!ok')) = true := by simp
  have B6 : Hid (Below w.heap.size w w6) := B1.out.trans ((B4.out.trans (b6.mono B4.out.size)).mono B1.out.size)
  clear hc b6 CY
  go_wp2_with fail
  go_ret
  exact ⟨rfl, B6.out⟩
end Go.Proofs.YtjgmkigfpjmlaaaDoor
