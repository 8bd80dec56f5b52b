/-
  search.Right, and the law.
-/
import Derived.Test.YtgfnjebnfhgimaaSg
namespace Go.Proofs.Ytgfnjebnfhgimaa
set_option linter.unusedVariables false
set_option linter.unusedSimpArgs false
open Go.RowKit Go.Lib Go.Maps
open Tx (MTxn TxnsIn TxnRow)

set_option maxHeartbeats 8000000 in
set_option maxRecDepth 100000 in
theorem right_is (w : World) (tv ov : Value) (l : List MTxn) (ord : List Int) (ht : TxnsIn Any w tv l) (ho : IntsIn Any w ov ord) (hl : l.length ≤ 262144) (hlo : ∀ t ∈ l, t.ops.length ≤ 1048576) (hks : ∀ t ∈ l, ∀ o ∈ t.ops, o.key.size ≤ 281474976710656) :
    Calls Try.prog 4 #[tv, ov] w fun e w' => RRPost l ord w e w' := by
  have RP := hid (replay_is w tv ov l ord ht ho hl hlo hks)
  have HT := hid ht
  have HO := hid ho
  clear ht ho hlo hks
  go_enter Try.func4, Try.ntmps4
  go_wp2_with fail
  go_at_call 6
  refine RP.out.mono ?_
  rintro e w1 ⟨b1, rfl, hb1, bl1⟩
  have HB1 := hid hb1
  have B1 := hid bl1
  clear hb1 bl1 RP
  cases b1 with
  | false =>
    go_wp2_with fail
    go_ret
    exact ⟨false, rfl, ⟨fun c => absurd c (by decide), fun c => absurd (HB1.out.2 c.1) (by decide)⟩, B1.out⟩
  | true =>
    have OK := hid (HB1.out.1 rfl)
    have hol : ord.length ≤ l.length := good_le l ord ord.length OK.out
    have HPL : Hid (∀ k, k < ord.length → 0 ≤ ord.getD k 0 ∧ ord.getD k 0 < l.length) := fun k hk => ⟨(OK.out k hk).1, (OK.out k hk).2.1⟩
    have WH := hid (isWhole_is w1 tv ov l ord (HT.out.below B1.out) (HO.out.below B1.out) hl HPL.out hol)
    clear HB1
    go_wp2_with fail
    go_at_call 7
    refine WH.out.mono ?_
    rintro e w2 ⟨b2, rfl, hb2, bl2⟩
    have HB2 := hid hb2
    have B2 : Hid (Below w.heap.size w w2) := B1.out.trans (bl2.mono B1.out.size)
    clear hb2 bl2 WH
    cases b2 with
    | false =>
      have HN : Hid (¬ rightR l ord) := fun c => absurd (HB2.out.2 ((right_iff OK.out).2 c).1) (by decide)
      clear HB2
      go_wp2_with fail
      go_ret
      exact ⟨false, rfl, ⟨fun c => absurd c (by decide), fun c => absurd c.2 HN.out⟩, B2.out⟩
    | true =>
      have KT := hid (keepsTime_is w2 tv ov l ord (HT.out.below B2.out) (HO.out.below B2.out) hl HPL.out hol)
      go_wp2_with fail
      go_at_call 8
      refine KT.out.mono ?_
      rintro e w3 ⟨b3, rfl, hb3, bl3⟩
      have HB3 := hid hb3
      have B3 : Hid (Below w.heap.size w w3) := B2.out.trans (bl3.mono B2.out.size)
      have FIN : Hid (b3 = true ↔ okR l ord ∧ rightR l ord) := ⟨fun h => ⟨OK.out, (right_iff OK.out).1 ⟨HB2.out.1 (by trivial), HB3.out.1 h⟩⟩, fun h => HB3.out.2 ((right_iff OK.out).2 h.2).2⟩
      clear hb3 bl3 KT HB3 HB2
      go_wp2_with fail
      go_ret
      exact ⟨b3, rfl, FIN.out, B3.out⟩
set_option maxHeartbeats 8000000 in
set_option maxRecDepth 100000 in
theorem sright_walk (w : World) (tv ov : Value) (l : List MTxn) (ord : List Int) (ht : TxnsIn Any w tv l) (ho : IntsIn Any w ov ord) (hl : l.length ≤ 262144) (hlo : ∀ t ∈ l, t.ops.length ≤ 1048576) (hks : ∀ t ∈ l, ∀ o ∈ t.ops, o.key.size ≤ 281474976710656) :
    Calls Try.prog 3 #[tv, ov] w fun e w' => e = .returned (.bool true) ∧ Below w.heap.size w w' := by
  have RP := hid (right_is w tv ov l ord ht ho hl hlo hks)
  have RD := hid (fun w1 (hb : Below w.heap.size w w1) => rightD_is w1 tv ov l ord (ht.below hb) (ho.below hb) hl hlo)
  clear ht ho hlo hks
  go_enter Try.func3, Try.ntmps3
  go_wp2_with fail
  go_at_call 4
  refine RP.out.mono ?_
  rintro e w1 ⟨b1, rfl, hb1, bl1⟩
  have HB1 := hid hb1
  have B1 := hid bl1
  clear hb1 bl1 RP
  go_wp2_with fail
  go_at_call 5
  refine (RD.out w1 B1.out).mono ?_
  rintro e w2 ⟨b2, rfl, hb2, bl2⟩
  have B2 : Hid (Below w.heap.size w w2) := B1.out.trans (bl2.mono B1.out.size)
  have hbb : b1 = b2 := by
    have := HB1.out.trans hb2.symm
    cases b1 <;> cases b2 <;> simp_all
  subst hbb
  clear hb2 bl2 RD HB1
  cases b1 <;>
  · go_wp2_with fail
    go_ret
    exact ⟨rfl, B2.out⟩
end Go.Proofs.Ytgfnjebnfhgimaa
