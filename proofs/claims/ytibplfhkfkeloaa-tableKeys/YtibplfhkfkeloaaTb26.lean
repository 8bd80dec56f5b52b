/-
  assayerplain.SameTxns, where the two are the same.
-/
import Derived.Test.YtibplfhkfkeloaaTb24
namespace Go.Proofs.Ytibplfhkfkeloaa
set_option linter.unusedVariables false
set_option linter.unusedSimpArgs false
open Go.RowKit Go.Lib
open Tx (MTxn RowsIn.cells RowCells TxnRow TxnsIn)

set_option maxHeartbeats 4000000 in
set_option maxRecDepth 100000 in
theorem equalTx_is {S T : Nat → Prop} (w : World) (l : List MTxn) (a1 a2 : Option Addr) (c1 c2 : Nat) (hl : l.length ≤ 1000) (h1 : TxnsIn S w (.slice a1 l.length c1) l) (h2 : TxnsIn T w (.slice a2 l.length c2) l) :
    Calls Try.prog 38 #[.slice a1 l.length c1, .slice a2 l.length c2, .func (.func 18) #[] #[]] w fun e w' => e = .returned (.bool true) ∧ Below w.heap.size w w' := by
  obtain ⟨x1, y1, e1, l1, k1⟩ := RowsIn.cells h1 (by omega)
  obtain ⟨x2, y2, e2, l2, k2⟩ := RowsIn.cells h2 (by omega)
  obtain ⟨rfl, _, rfl⟩ := Value.slice.inj e1
  obtain ⟨rfl, _, rfl⟩ := Value.slice.inj e2
  have H1 := hid k1
  have H2 := hid k2
  have hli : (l.length : Int) ≤ 1000 := by omega
  clear h1 h2 k1 k2 e1 e2
  go_enter Try.func38, Try.ntmps38
  go_wp2_with fail
  go_loopg [7, 8, 9, 17] l.length (fun gg _ _ _ i wr => ∃ k : Nat, k ≤ l.length ∧ l.length - k ≤ gg ∧ i = .int .i64 k ∧ Aside (Below w.heap.size w wr))
  case atStart => exact ⟨0, Nat.zero_le _, by omega, rfl, Below.refl _ _⟩
  case round =>
    obtain ⟨k, hk, hgk, rfl, BR⟩ := hrel
    by_cases hlt : k < l.length
    · have hlti : (k : Int) < l.length := by omega
      obtain ⟨b, o, cs, rfl, hbl, _, ⟨ov, hcs, hops⟩, hcell⟩ := H1.out k hlt
      subst hcs
      obtain ⟨b', o', cs', rfl, hbl', _, ⟨ov', hcs', hops'⟩, hcell'⟩ := H2.out k hlt
      subst hcs'
      have d0 := (BR.out.cell (p := ⟨b, o + k * 5 + 0, none⟩) hbl).trans (hcell 0 _ rfl)
      have d1 := (BR.out.cell (p := ⟨b, o + k * 5 + 1, none⟩) hbl).trans (hcell 1 _ rfl)
      have d2 := (BR.out.cell (p := ⟨b, o + k * 5 + 2, none⟩) hbl).trans (hcell 2 _ rfl)
      have d3 := (BR.out.cell (p := ⟨b, o + k * 5 + 3, none⟩) hbl).trans (hcell 3 _ rfl)
      have d4 := (BR.out.cell (p := ⟨b, o + k * 5 + 4, none⟩) hbl).trans (hcell 4 _ rfl)
      rw [Nat.add_zero] at d0
      have f0 := (BR.out.cell (p := ⟨b', o' + k * 5 + 0, none⟩) hbl').trans (hcell' 0 _ rfl)
      have f1 := (BR.out.cell (p := ⟨b', o' + k * 5 + 1, none⟩) hbl').trans (hcell' 1 _ rfl)
      have f2 := (BR.out.cell (p := ⟨b', o' + k * 5 + 2, none⟩) hbl').trans (hcell' 2 _ rfl)
      have f3 := (BR.out.cell (p := ⟨b', o' + k * 5 + 3, none⟩) hbl').trans (hcell' 3 _ rfl)
      have f4 := (BR.out.cell (p := ⟨b', o' + k * 5 + 4, none⟩) hbl').trans (hcell' 4 _ rfl)
      rw [Nat.add_zero] at f0
      have hbw : b' < wr.heap.size := Nat.lt_of_lt_of_le hbl' BR.out.size
      have HO := hid hops
      have HO' := hid hops'
      clear hcell hcell' hops hops'
      generalize l.getD k default = t at *
      obtain ⟨oa, oc, hov, _⟩ := id HO.out
      subst hov
      obtain ⟨oa', oc', hov', _⟩ := id HO'.out
      subst hov'
      have BB : ∀ x y, Hid (Below w.heap.size w ((wr.alloc x).alloc y)) := fun x y => (BR.out.alloc BR.out.size x).alloc (by rw [alloc_size]; have := BR.out.size; omega) y
      have ST : Hid (∀ W, Below w.heap.size w W → Calls Try.prog 18 #[.agg (txC t (.slice oa t.ops.length oc)), .agg (txC t (.slice oa' t.ops.length oc'))] W fun e w' => e = .returned (.bool true) ∧ Below W.heap.size W w') := fun W hb => sameTxn_is W t _ _ (HO.out.keep (keeps_below hb) (fun _ _ h => h)) (HO'.out.keep (keeps_below hb) (fun _ _ h => h))
      go_wp2_with (go_at_call 18; refine (ST.out _ (BB _ _).out).mono ?_; rintro e w9 ⟨rfl, b9⟩; have B9 := hid b9; clear b9)
      go_roundg (l.length - (k + 1))
      case measure => omega
      case rel => exact ⟨k + 1, by omega, by omega, by go_num, (BB _ _).out.trans (B9.out.mono (BB _ _).out.size)⟩
    · go_wp2_with fail
      go_ret
      exact ⟨rfl, BR.out⟩
theorem sameTxns_is {S T : Nat → Prop} (w : World) (l : List MTxn) (a1 a2 : Option Addr) (c1 c2 : Nat) (hl : l.length ≤ 1000) (h1 : TxnsIn S w (.slice a1 l.length c1) l) (h2 : TxnsIn T w (.slice a2 l.length c2) l) :
    Calls Try.prog 19 #[.slice a1 l.length c1, .slice a2 l.length c2] w fun e w' => e = .returned (.bool true) ∧ Below w.heap.size w w' := by
  have H := hid (equalTx_is w l a1 a2 c1 c2 hl h1 h2)
  clear h1 h2
  go_enter Try.func19, Try.ntmps19
  go_wp2_with (go_at_call 38; refine H.out.mono ?_; rintro e w' ⟨rfl, hb⟩)
  go_ret
  exact ⟨rfl, hb⟩
end Go.Proofs.Ytibplfhkfkeloaa
