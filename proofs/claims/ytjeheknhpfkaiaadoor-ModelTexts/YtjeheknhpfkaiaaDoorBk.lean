/-
  slices.Backward over operations: from the last one to the first.
-/
import Derived.Test.YtjeheknhpfkaiaaDoorM6
import Derived.Test.YtjeheknhpfkaiaaDoorRf
namespace Go.Proofs.YtjeheknhpfkaiaaDoor
set_option linter.unusedVariables false
set_option linter.unusedSimpArgs false
open Go.RowKit Go.Shelf
attribute [local go_sem] Oper.semAt_some

/-- Blocks below n that are not of P stay. -/
structure KeepP (P : Nat → Prop) (n : Nat) (W W' : World) : Prop where
  os : W'.os = W.os
  tape : W'.tape = W.tape
  output : W'.output = W.output
  size : W.heap.size ≤ W'.heap.size
  block : ∀ b, b < n → ¬ P b → W'.heap[b]? = W.heap[b]?
theorem KeepP.refl (P : Nat → Prop) (n : Nat) (W : World) : KeepP P n W W := ⟨rfl, rfl, rfl, Nat.le_refl _, fun _ _ _ => rfl⟩
theorem KeepP.trans {P : Nat → Prop} {n : Nat} {A B C : World} (h : KeepP P n A B) (k : KeepP P n B C) : KeepP P n A C := ⟨k.os.trans h.os, k.tape.trans h.tape, k.output.trans h.output, Nat.le_trans h.size k.size, fun b hb hn => (k.block b hb hn).trans (h.block b hb hn)⟩
theorem KeepP.put {P : Nat → Prop} {n : Nat} (W : World) (l : Nat) (o : Obj) (h : n ≤ l) : KeepP P n W (W.putObj l o) := ⟨rfl, rfl, rfl, by simp, fun b hb _ => World.putObj_heap_other (by omega)⟩
theorem KeepP.cell {P : Nat → Prop} {n : Nat} {W W' : World} (h : KeepP P n W W') {b i : Nat} {v : Value} (hb : b < n) (hn : ¬ P b) (hc : W.cell? ⟨b, i, none⟩ = some v) : W'.cell? ⟨b, i, none⟩ = some v := (World.cell?_of_block (a := ⟨b, i, none⟩) (h.block b hb hn)).trans hc

set_option maxHeartbeats 1000000 in
theorem back_in (F : Fence) (n : Nat) (hf : F.fn 34) (hro : F.round = none) (a : Option Addr) (len cap : Nat) (w : World) :
    CallsIn F n Tryd.prog 34 #[.slice a len cap] w fun e w' => e = .returned (.func (.func 42) #[] #[.pointer (some ⟨w.heap.size, 0, none⟩)]) ∧ w' = w.alloc (.cells #[.slice a len cap] 22) := by
  refine callsIn_of_wp Tryd.func34 rfl hf ?_ hro
  simp only [Tryd.ntmps34, List.size_toArray, List.length_cons, List.length_nil, Nat.reduceAdd, Nat.reduceSub, Array.replicate_succ, Array.replicate_zero, List.push_toArray, List.append_toArray, List.nil_append, List.cons_append]
  gi_wp2
  go_ret
  exact ⟨rfl, rfl⟩

/-- What the round k is handed. -/
def backX (l : List MOp) (len : Nat) (lv : Nat → Value) (k : Nat) : Array Value := #[.int .i64 ((len - 1 - k : Nat) : Int), opV (l.getD (len - 1 - k) default) (lv (len - 1 - k))]

set_option maxRecDepth 100000 in
set_option maxHeartbeats 4000000 in
theorem back_seq (F : Fence) (n : Nat) (hf : F.fn 42) (hro : F.round = none) (hn : 1 ≤ n) (P : Nat → Prop) (Bs n1 : Nat) (a : Option Addr) (l : List MOp) (len cap : Nat) (lv : Nat → Value) (w : World) (hlen : len * 64 ≤ 140737488355328) (hcap : len ≤ cap) (hlv : ∀ j, j < len → ∃ a n c, lv j = .slice a n c)
    (hBs : w.cell? ⟨Bs, 0, none⟩ = some (.slice a len cap)) (hB1 : Bs < n1) (hBP : ¬ P Bs) (hn1 : n1 ≤ w.heap.size) (hc : OpCells w a l len lv (fun b => b < n1 ∧ ¬ P b)) :
    SeqDet F n Tryd.prog 42 #[.pointer (some ⟨Bs, 0, none⟩)] (backX l len lv) len (KeepP P n1) w := fun id J W hW hY h0 => by
  have hbx : W.cell? ⟨Bs, 0, none⟩ = some (.slice a len cap) := (hW.cell (p := ⟨Bs, 0, none⟩) (show Bs < w.heap.size by omega)).trans hBs
  have hc2 : OpCells W a l len lv (fun b => b < n1 ∧ ¬ P b) := hc.keep (fun b hb => hW.block b (by omega))
  have HC := hid hc2
  have HLV := hid hlv
  clear hc hc2 hBs hlv
  refine callsIn_of_wp Tryd.func42 rfl hf ?_ hro
  simp only [Tryd.ntmps42, List.size_toArray, List.length_cons, List.length_nil, Nat.reduceAdd, Nat.reduceSub, Array.replicate_succ, Array.replicate_zero, List.push_toArray, List.append_toArray, List.nil_append, List.cons_append]
  gi_wp2
  gi_loopw [3] (fun i wr => ∃ k : Nat, k ≤ len ∧ i = .int .i64 ((len : Int) - 1 - k) ∧ J k wr ∧ KeepP P n1 W wr)
    (fun i _ => (intOf i + 1).toNat)
  case atStart => exact ⟨0, Nat.zero_le _, by simp, h0, KeepP.refl _ _ _⟩
  case round =>
    obtain ⟨k, hk, rfl, hJ, hkp⟩ := hrel
    by_cases hlt : k < len
    · obtain ⟨j, hj⟩ : ∃ j, len - 1 - k = j := ⟨_, rfl⟩
      have hj2 : ((len : Int) - 1 - k) = j := by omega
      have hjl : j < len := by omega
      obtain ⟨b, off, rfl, ⟨hb1, hbP⟩, c0, c1, c2, c3, c4, c5⟩ := HC.out j hjl
      obtain ⟨fn, tmps, assign, body, hy, hR⟩ := hY k wr hlt hJ
      unfold backX opV at hy
      rw [hj] at hy
      obtain ⟨la, ln, lc, hl3⟩ := HLV.out j hjl
      rw [hl3] at hy c3
      have hbx2 := hkp.cell hB1 hBP hbx
      have d0 := hkp.cell hb1 hbP c0
      have d1 := hkp.cell hb1 hbP c1
      have d2 := hkp.cell hb1 hbP c2
      have d3 := hkp.cell hb1 hbP c3
      have d4 := hkp.cell hb1 hbP c4
      have d5 := hkp.cell hb1 hbP c5
      clear c0 c1 c2 c3 c4 c5 hbx
      generalize l.getD j default = o at *
      rw [hj2]
      have hji : (j : Int) < len := by omega
      have hj0 : (0 : Int) ≤ j := by omega
      have HK := hid hkp
      have HJ2 := hid hj2
      have HJ1 := hid hj
      clear hkp hj2 hj
      gi_wp2
      refine hR.mono ?_
      rintro e W3 ⟨rfl, hJ3, hk3⟩
      gi_wp2
      go_roundw
      case rel => exact ⟨k + 1, by omega, by have := HJ2.out; simp; omega, hJ3, HK.out.trans hk3⟩
      case measure => simp [intOf]
    · obtain rfl : k = len := by omega
      have he : ((k : Int) - 1 - k) = -1 := by omega
      rw [he]
      gi_wp2
      go_end0
      exact ⟨⟨_, rfl⟩, hJ⟩
end Go.Proofs.YtjeheknhpfkaiaaDoor
