/-
  A range over a function whose rounds are known ahead, one by one.
-/
import Derived.RangeFuncNested
import Derived.RangeFuncBound
import Derived.RangeFuncCalls
import Derived.RangeFuncLeaves
import Derived.Shelf.Abstract
import Derived.Shelf.RegionOpen
import Derived.WalkKit
import Derived.OwnWalkIn
import Derived.TacticsInMore
import Derived.LoopNIn
import Derived.LoopIn
import Derived.Test.YtjgmkigfpjmlaabDoorProg
import Derived.Test.YtjgmkigfpjmlaabDoorZI
namespace Go.Proofs.YtjgmkigfpjmlaabDoor
set_option linter.unusedVariables false
set_option linter.unusedSimpArgs false
open Go.RowKit Go.Shelf

section
variable {F : Fence} {n : Nat} {P : Program}

/-- An iterator that hands on just the rows xs 0, xs 1, .. up to N of them; a round keeps Kp. -/
def SeqDet (F : Fence) (n : Nat) (P : Program) (g : Nat) (lb : Array Value) (xs : Nat → Array Value) (N : Nat) (Kp : World → World → Prop) (w : World) : Prop :=
  ∀ (l : Nat) (J : Nat → World → Prop) (W : World), Below w.heap.size w W →
    (∀ k W1, k < N → J k W1 → YieldAt F (n - 1) P l (xs k) W1 fun e W' => e = .returned (.bool true) ∧ J (k + 1) W' ∧ Kp W1 W') →
    J 0 W → CallsIn F n P g (#[.func (.yield l) #[] #[]] ++ lb) W fun e W' => (∃ v, e = .returned v) ∧ J N W'
/-- A round goes on, and leaves I. -/
def detPost (B : Nat) (Kp : World → World → Prop) (J : World → Prop) (W : World) : Exit → Act → World → Prop
  | .normal, _, W' => KeepsFrom B W W' ∧ Kp W W' ∧ J W'
  | _, _, _ => False
/-- What stays when a block that is no cells is turned, at B or behind it. -/
def Stays (B : Nat) (J : World → Prop) : Prop := ∀ (W : World) (l : Nat) (o o' : Obj), J W → B ≤ l → W.heap[l]? = some o → o.isCells = false → J (W.putObj l o')

theorem wpIn_rangeFunc_det {g : Operand} {ps : Array Tmp} {assign body : Code} {Q : Exit → Act → World → Prop} {a : Act} {w : World} (hro : F.round = none) (h1 : 1 ≤ n)
    {gf : Nat} {lb : Array Value} (hg : a.eval g = .func (.func gf) #[] lb) (hFg : F.fn gf) (eg : ∀ args w, (callFunc gf args).run P w = .ok (.enter gf args) w)
    {xs : Nat → Array Value} {N : Nat} {Kp : World → World → Prop} {w0 : World} (hseq : SeqDet F (n - 1) P gf lb xs N Kp w0) (hb0 : Below w0.heap.size w0 w) (hps : ∀ k, (xs k).size = ps.size)
    (hKt : ∀ {A B C : World}, Kp A B → Kp B C → Kp A C) (hKb : ∀ (W : World) (l : Nat) (o o' : Obj), w.heap.size ≤ l → W.heap[l]? = some o → o.isCells = false → Kp W (W.putObj l o'))
    (J : Nat → World → Prop) (hJ : ∀ k, Stays w.heap.size (J k)) (h0 : ∀ o1 o2, J 0 ((w.alloc o1).alloc o2))
    (Ax : Nat → Act → World → Prop) (hAx : ∀ k a, Stays w.heap.size (Ax k a))
    (hassign : ∀ (l k : Nat) (W : World), k < N → J k W → assign.wpIn (F.inRound l) (n - 1 - 1) P (Exit.then (fun a1 W1 => KeepsFrom w.heap.size W W1 ∧ Kp W W1 ∧ Ax k a1 W1) (fun _ _ _ => False)) { tmps := (ps.zip (xs k)).foldl (fun t (p, v) => t.setIfInBounds p v) a.tmps, defers := [] } W)
    (hbody : ∀ (l k : Nat) (a1 : Act) (W : World), k < N → Ax k a1 W → body.wpIn (F.inRound l) (n - 1 - 1) P (detPost w.heap.size Kp (J (k + 1)) W) a1 W)
    (hdone : ∀ (D : Nat) (W : World), w.heap.size ≤ D → J N W → W.heap[D]? = some (.deferred (some [])) → Q .normal { a with defers := { target := .collected D, args := #[] } :: a.defers } W) :
    (Code.rangeFunc g ps assign body).wpIn F n P Q a w := by
  refine wpIn_rangeFunc fun fn hfn => ?_
  rw [hro]
  obtain ⟨B, hB⟩ : ∃ B, w.heap.size = B := ⟨_, rfl⟩
  rw [hB] at hKb hJ hAx hassign hbody hdone
  obtain ⟨R, hR⟩ : ∃ R : LoopState → Option Code → Loop, R = fun st pe => { state := st, pending := pe, fn, tmps := a.tmps, params := ps, assign, body, defers := B } := ⟨_, rfl⟩
  have henter := run_enterLoop_outer (P := P) (w := w) fn a.tmps ps assign body
  rw [hB] at henter
  obtain ⟨W1, hW1⟩ : ∃ W1, (w.alloc (.deferred (some []))).alloc (.loop (R .ready none)) = W1 := ⟨_, rfl⟩
  have hs1 : W1.heap.size = B + 2 := by rw [← hW1, World.size_alloc, World.size_alloc, hB]
  have hrec : W1.heap[B + 1]? = some (.loop (R .ready none)) := by
    rw [← hW1]
    have := World.alloc_heap_new (w.alloc (.deferred (some []))) (.loop (R .ready none))
    rwa [World.size_alloc, hB] at this
  have hdef : W1.heap[B]? = some (.deferred (some [])) := by
    rw [← hW1, ← hB]
    exact (Below.heap_alloc _ _ _ (by simp)).trans (World.alloc_heap_new w _)
  have hbel : Below w0.heap.size w0 W1 := by
    rw [← hW1]
    exact hb0.trans ((((Below.refl _ w).alloc (Nat.le_refl _) _).alloc (by simp) _).mono hb0.size)
  have hJ0 : J 0 W1 := by rw [← hW1]; exact h0 _ _
  refine ⟨B + 1, [{ target := .collected B, args := #[] }], W1, { target := .fn (.func gf) lb, args := #[.func (.yield (B + 1)) #[] #[]] }, W1, gf, #[.func (.yield (B + 1)) #[] #[]] ++ lb, W1, ?_, ?_, ?_, ?_, fun _ => h1, ?_⟩
  · rw [henter, ← hW1, hR]
  · simp only [resolve, hg]
    simp [go_sem]
  · intro f' hf'
    simp [Target.leads] at hf'
    subst hf'
    exact hFg
  · simp [invoke, go_sem, eg]
  · refine (hseq (B + 1) (fun k W => J k W ∧ W.heap[B + 1]? = some (.loop (R .ready none)) ∧ W.heap[B]? = some (.deferred (some []))) W1 hbel ?_ ⟨hJ0, hrec, hdef⟩).mono ?_
    · rintro k W hk ⟨hj, hl, hd⟩
      have hy := run_yield (P := P) (args := xs k) hl (by rw [hR]; exact hps k)
      rw [hR] at hy
      refine ⟨fn, _, assign, body, hy, roundIn_of_wpIn hfn (wpIn_mono (hassign (B + 1) k W hk hj) ?_)⟩
      rintro e a1 W2 he
      cases e with
      | normal =>
        obtain ⟨hk2, hp2, hx2⟩ := he
        have hl2 : W2.heap[B + 1]? = some (.loop (R .ready none)) := hk2.same (B + 1) _ (by omega) hl rfl
        have hd2 : W2.heap[B]? = some (.deferred (some [])) := hk2.same B _ (by omega) hd rfl
        refine ⟨_, run_beginRound hl2 (by rw [hR]), ?_⟩
        have hlt2 : B + 1 < W2.heap.size := (Array.getElem?_eq_some_iff.1 hl2).1
        refine wpIn_mono (hbody (B + 1) k a1 _ hk (hAx k a1 _ _ _ _ hx2 (by omega) hl2 rfl)) ?_
        rintro e a3 W3 h3
        cases e with
        | normal =>
          obtain ⟨hk3, hp3, hj3⟩ := h3
          have hl3 := hk3.same (B + 1) _ (by omega) (World.putObj_heap_same hlt2) rfl
          have hd3 := hk3.same B _ (by omega) ((World.putObj_heap_other (w := W2) (r := B + 1) (by omega)).trans hd2) rfl
          have hlt3 : B + 1 < W3.heap.size := (Array.getElem?_eq_some_iff.1 hl3).1
          have hend := run_endRound (P := P) none hl3
          refine ⟨_, _, hend, rfl, ⟨hJ (k + 1) _ _ _ _ hj3 (by omega) hl3 rfl, ?_, (World.putObj_heap_other (by omega)).trans hd3⟩, ?_⟩
          · rw [World.putObj_heap_same hlt3, hR]
            rfl
          · exact hKt (hKt (hKt hp2 (hKb _ _ _ _ (by omega) hl2 rfl)) hp3) (hKb _ _ _ _ (by omega) hl3 rfl)
        | _ => exact h3.elim
      | _ => exact he.elim
    · rintro e W2 ⟨⟨v, rfl⟩, hj, hl, hd⟩
      refine ⟨none, _, by have := run_endLoop (P := P) hl (by rw [hR]; simp); rw [hR] at this; exact this, ?_⟩
      exact hdone B _ (Nat.le_refl _) (hJ N _ _ _ _ hj (by omega) hl rfl) ((World.putObj_heap_other (by omega)).trans hd)
/-- No operation of a region defers a call. -/
def noDefer (ops : Array Oper) : Bool := ops.toList.all fun o => match o.op with
  | .defer _ => false
  | _ => true
theorem noDefer_at {ops : Array Oper} (h : noDefer ops = true) {i : Nat} {o : Oper} (ho : ops[i]? = some o) : ∀ c, o.op ≠ .defer c := fun c hc => by
  have h1 := List.all_eq_true.1 h o (by rw [Array.mem_toList_iff]; exact Array.mem_of_getElem? ho)
  rw [hc] at h1
  cases h1
/-- Such a region goes in a round as elsewhere. -/
theorem wpAnyIn_inRound {ops : Array Oper} {Q : Exit → Act → World → Prop} {md : Region.Mode} (hro : F.round = none) (hd : noDefer ops = true) (l : Nat) : ∀ (fuel : Nat) (listed : Array Bool) (a : Act) (w : World), wpAnyIn F n P md ops Q fuel listed a w → wpAnyIn (F.inRound l) n P md ops Q fuel listed a w
  | 0, listed, a, w, h => h
  | fuel + 1, listed, a, w, h => by
    refine ⟨h.1, fun i hi => ?_⟩
    have h2 := h.2 i hi
    have h3 := wpOpIn_mono (fun a w => wpAnyIn_inRound hro hd l fuel (listed.setIfInBounds i true) a w) h2
    unfold wpOpIn at h3 ⊢
    cases ho : ops[i]? with
    | none => simp only [ho] at h3 ⊢; exact h3
    | some o =>
      simp only [ho] at h3 ⊢
      by_cases hw : Region.wanted o (yielded ops a.tmps) = true
      · simp only [hw, if_true] at h3 ⊢
        refine ⟨h3.1, ?_⟩
        have h4 := h3.2
        rw [Oper.semAt_eq _ _ _ (noDefer_at hd ho)] at h4 ⊢
        exact h4
      · simp only [hw] at h3 ⊢
        exact h3
end
end Go.Proofs.YtjgmkigfpjmlaabDoor

/-
  slices.Values of numbers, and slices.Sorted of that.
-/
namespace Go.Proofs.YtjgmkigfpjmlaabDoor
set_option linter.unusedVariables false
set_option linter.unusedSimpArgs false
open Go.RowKit Go.Shelf
attribute [local go_sem] Oper.semAt_some

/-- Blocks below n stay. -/
structure KeepB (n : Nat) (W W' : World) : Prop where
  os : W'.os = W.os
  tape : W'.tape = W.tape
  output : W'.output = W.output
  size : W.heap.size ≤ W'.heap.size
  block : ∀ b, b < n → W'.heap[b]? = W.heap[b]?
theorem KeepB.refl (n : Nat) (W : World) : KeepB n W W := ⟨rfl, rfl, rfl, Nat.le_refl _, fun _ _ => rfl⟩
theorem KeepB.trans {n : Nat} {A B C : World} (h : KeepB n A B) (k : KeepB n B C) : KeepB n A C := ⟨k.os.trans h.os, k.tape.trans h.tape, k.output.trans h.output, Nat.le_trans h.size k.size, fun b hb => (k.block b hb).trans (h.block b hb)⟩
theorem KeepB.put {n : Nat} (W : World) (l : Nat) (o : Obj) (h : n ≤ l) : KeepB n W (W.putObj l o) := ⟨rfl, rfl, rfl, by simp, fun b hb => World.putObj_heap_other (by omega)⟩
theorem KeepB.cell {n : Nat} {W W' : World} (h : KeepB n W W') {b i : Nat} {v : Value} (hb : b < n) (hc : W.cell? ⟨b, i, none⟩ = some v) : W'.cell? ⟨b, i, none⟩ = some v := (World.cell?_of_block (a := ⟨b, i, none⟩) (h.block b hb)).trans hc
theorem KeepB.of_below {n : Nat} {W W' : World} (h : Below n W W') : KeepB n W W' := ⟨h.os, h.tape, h.output, h.size, h.block⟩
theorem KeepB.below {n : Nat} {W W' : World} (h : KeepB n W W') : Below n W W' := ⟨h.os, h.tape, h.output, h.size, h.block⟩

set_option maxHeartbeats 1000000 in
theorem values_is (a : Option Addr) (len cap : Nat) (w : World) :
    Calls Tryd.prog 89 #[.slice a len cap] w fun e w' => e = .returned (.func (.func 97) #[] #[.pointer (some ⟨w.heap.size, 0, none⟩)]) ∧ w' = w.alloc (.cells #[.slice a len cap] 28) := by
  go_enter Tryd.func89, Tryd.ntmps89
  go_wp2
  go_ret
  exact ⟨rfl, rfl⟩

/-- Numbers from an address on, in a block below n1. -/
def IntsAt (w : World) (n1 : Nat) (a : Option Addr) (l : List Nat) : Prop := ∀ j, j < l.length → ∃ b off, a = some ⟨b, off, none⟩ ∧ b < n1 ∧ w.cell? ⟨b, off + j, none⟩ = some (.int .i64 ((l.getD j 0 : Nat) : Int))
def valX (l : List Nat) (k : Nat) : Array Value := #[.int .i64 ((l.getD k 0 : Nat) : Int)]

set_option maxRecDepth 100000 in
set_option maxHeartbeats 4000000 in
theorem values_seq (F : Fence) (n : Nat) (hf : F.fn 97) (hro : F.round = none) (hn : 1 ≤ n) (Bs n1 : Nat) (a : Option Addr) (l : List Nat) (cap : Nat) (w : World) (hlen : l.length ≤ 1000) (hcap : l.length ≤ cap)
    (hBs : w.cell? ⟨Bs, 0, none⟩ = some (.slice a l.length cap)) (hB1 : Bs < n1) (hn1 : n1 ≤ w.heap.size) (hc : IntsAt w n1 a l) :
    SeqDet F n Tryd.prog 97 #[.pointer (some ⟨Bs, 0, none⟩)] (valX l) l.length (KeepB n1) w := fun id J W hW hY h0 => by
  have hbx : W.cell? ⟨Bs, 0, none⟩ = some (.slice a l.length cap) := (hW.cell (p := ⟨Bs, 0, none⟩) (show Bs < w.heap.size by omega)).trans hBs
  have hc2 : IntsAt W n1 a l := fun j hj => by
    obtain ⟨b, off, h1, h2, h3⟩ := hc j hj
    exact ⟨b, off, h1, h2, (hW.cell (p := ⟨b, off + j, none⟩) (show b < w.heap.size by omega)).trans h3⟩
  have HC := hid hc2
  have hli : (l.length : Int) ≤ 1000 := by omega
  clear hc hc2 hBs
  refine callsIn_of_wp Tryd.func97 rfl hf ?_ hro
  simp only [Tryd.ntmps97, List.size_toArray, List.length_cons, List.length_nil, Nat.reduceAdd, Nat.reduceSub, Array.replicate_succ, Array.replicate_zero, List.push_toArray, List.append_toArray, List.nil_append, List.cons_append]
  gi_wp2
  gi_loopw [7] (fun i wr => ∃ k : Nat, k ≤ l.length ∧ i = .int .i64 (k : Int) ∧ J k wr ∧ KeepB n1 W wr)
    (fun i _ => l.length - (intOf i).toNat)
  case atStart => exact ⟨0, Nat.zero_le _, by simp, h0, KeepB.refl _ _⟩
  case round =>
    obtain ⟨k, hk, rfl, hJ, hkp⟩ := hrel
    by_cases hlt : k < l.length
    · have hlti : (k : Int) < l.length := by omega
      have hk0 : (0 : Int) ≤ k := by omega
      obtain ⟨b, off, rfl, hb1, c0⟩ := HC.out k hlt
      obtain ⟨fn, tmps, assign, body, hy, hR⟩ := hY k wr hlt hJ
      unfold valX at hy
      have d0 := hkp.cell hb1 c0
      clear c0
      generalize l.getD k 0 = x at *
      have HK := hid hkp
      clear hkp
      gi_wp2
      refine hR.mono ?_
      rintro e W3 ⟨rfl, hJ3, hk3⟩
      gi_wp2
      go_roundw
      case rel => exact ⟨k + 1, by omega, by go_num, hJ3, HK.out.trans hk3⟩
      case measure => simp [intOf]; omega
    · have hlti : ¬ (k : Int) < l.length := by omega
      obtain rfl : k = l.length := by omega
      gi_wp2
      go_end0
      exact ⟨⟨_, rfl⟩, hJ⟩
end Go.Proofs.YtjgmkigfpjmlaabDoor

/-
  slices.AppendSeq and slices.Collect of slices.Values.
-/
namespace Go.Proofs.YtjgmkigfpjmlaabDoor
set_option linter.unusedVariables false
set_option linter.unusedSimpArgs false
open Go.RowKit Go.Shelf
attribute [local go_sem] Oper.semAt_some

/-- Behind k rounds: the box holds a row of one's own with the first k numbers. -/
def ApJ (w : World) (l : List Nat) (k : Nat) (W : World) : Prop := ∃ v, W.heap[w.heap.size]? = some (.cells #[v] 28) ∧ W.ownsRow (w.heap.size + 1) 3 1 v k (intsV (l.take k)) ∧ KeepB w.heap.size w W ∧ w.heap.size + 1 ≤ W.heap.size
theorem own_put {B t k n : Nat} {W : World} {v : Value} {xs : List Value} (h : W.ownsRow B t k v n xs) (l : Nat) (o o' : Obj) (ho : W.heap[l]? = some o) (hx : o.isCells = false) : (W.putObj l o').ownsRow B t k v n xs := by
  refine ⟨h.1, ?_⟩
  rcases h.2 with h1 | ⟨g, cap, cur, hv, hB, hh, r⟩
  · exact .inl h1
  · refine .inr ⟨g, cap, cur, hv, hB, ?_, r⟩
    rw [World.putObj_heap_other (fun e => by rw [e, ho] at hh; cases hh; cases hx)]
    exact hh
theorem ApJ.stays {w : World} {l : List Nat} (k : Nat) : Stays (w.heap.size + 1) (ApJ w l k) := fun W i o o' hj hi ho hx => by
  obtain ⟨v, h1, h2, h3, h4⟩ := hj
  refine ⟨v, ?_, own_put h2 i o o' ho hx, h3.trans (KeepB.put W i o' (by omega)), by rw [World.putObj_size]; exact h4⟩
  rw [World.putObj_heap_other (by omega)]
  exact h1
theorem keepB_set (n : Nat) (W : World) (v : Value) : KeepB n W (W.setCell ⟨n, 0, none⟩ v) := ⟨rfl, rfl, rfl, by simp, fun b hb => Below.heap_setCell W ⟨n, 0, none⟩ v b (fun e => by have e' : b = n := e; omega)⟩
theorem cell_one {w : World} {b t : Nat} {v : Value} (h : w.heap[b]? = some (.cells #[v] t)) : w.cell? ⟨b, 0, none⟩ = some v ∧ w.frozen? ⟨b, 0, none⟩ = false := ⟨Lib.cell_of_heap h 0, Lib.frozen_of_heap h 0⟩

set_option maxRecDepth 100000 in
set_option maxHeartbeats 4000000 in
theorem appSeq_is (Bs : Nat) (a : Option Addr) (l : List Nat) (cap : Nat) (w : World) (hlen : l.length ≤ 1000) (hcap : l.length ≤ cap) (hBs : w.cell? ⟨Bs, 0, none⟩ = some (.slice a l.length cap)) (hB1 : Bs < w.heap.size) (hc : IntsAt w w.heap.size a l) :
    Calls Tryd.prog 99 #[.slice none 0 0, .func (.func 97) #[] #[.pointer (some ⟨Bs, 0, none⟩)]] w fun e w' => (∃ v, e = .returned v ∧ Ints w.heap.size w' v l) ∧ Below w.heap.size w w' := by
  obtain ⟨i3, hi3, hz3⟩ := Option.map_eq_some_iff.1 Tryd.info3i
  simp only [Prod.mk.injEq] at hz3
  obtain ⟨z30, z31, z32⟩ := hz3
  refine (callsIn_wide (n := 5)).1 ?_
  refine callsIn_of_wp_marks Tryd.func99 rfl trivial ?_ rfl
  simp only [Tryd.ntmps99, List.size_toArray, List.length_cons, List.length_nil, Nat.reduceAdd, Nat.reduceSub, Array.replicate_succ, Array.replicate_zero, List.push_toArray, List.append_toArray, List.nil_append, List.cons_append]
  gi_wp2
  obtain ⟨w3, hw3⟩ : ∃ w3, w.alloc (.cells #[.slice none 0 0] 28) = w3 := ⟨_, rfl⟩
  have hs3 : w3.heap.size = w.heap.size + 1 := by rw [← hw3, World.size_alloc]
  have b0 : w3.heap[w.heap.size]? = some (.cells #[.slice none 0 0] 28) := by rw [← hw3]; exact heap_alloc_new w _
  have BW : Below w.heap.size w w3 := by rw [← hw3]; exact below_box w _
  rw [hw3]
  clear hw3
  have hBs3 : w3.cell? ⟨Bs, 0, none⟩ = some (.slice a l.length cap) := (BW.cell (p := ⟨Bs, 0, none⟩) hB1).trans hBs
  have hc3 : IntsAt w3 w.heap.size a l := fun j hj => by
    obtain ⟨b, off, h1, h2, h3⟩ := hc j hj
    exact ⟨b, off, h1, h2, (BW.cell (p := ⟨b, off + j, none⟩) h2).trans h3⟩
  refine wpIn_rangeFunc_det (F := Fence.wide) (n := 5) rfl (by omega) (gf := 97) (lb := #[.pointer (some ⟨Bs, 0, none⟩)]) rfl trivial (enters_of Tryd.func97 (by kernel_rfl) rfl)
    (values_seq Fence.wide _ trivial rfl (by omega) Bs w.heap.size a l cap w3 hlen hcap hBs3 hB1 (by omega) hc3)
    (Below.refl _ _) (fun _ => rfl) (fun h k => h.trans k) (fun W l o o' hl _ _ => KeepB.put W l o' (by omega))
    (ApJ w l) (fun k => by rw [hs3]; exact ApJ.stays k)
    (fun o1 o2 => by
      have hb2 : Below w3.heap.size w3 ((w3.alloc o1).alloc o2) := ((Below.refl _ w3).alloc (Nat.le_refl _) _).alloc (by simp) _
      exact ⟨_, (hb2.block w.heap.size (by omega)).trans b0, World.ownsRow_nil _ _ _ _, KeepB.of_below (BW.trans (hb2.mono (by omega))), by have := hb2.size; omega⟩)
    (fun k a1 W => ApJ w l k W ∧ a1 = { tmps := #[.slice none 0 0, .func (.func 97) #[] #[.pointer (some ⟨Bs, 0, none⟩)], .pointer (some ⟨w.heap.size, 0, none⟩), undef, .slice none 0 0, .int .i64 ((l.getD k 0 : Nat) : Int), .func (.func 97) #[] #[.pointer (some ⟨Bs, 0, none⟩)], .int .i64 ((l.getD k 0 : Nat) : Int), undef, undef, undef, undef, undef], defers := [] })
    (fun k a1 W i o o' hj hi ho hx => ⟨ApJ.stays k W i o o' hj.1 (by omega) ho hx, hj.2⟩)
    ?assign ?body ?done
  case assign =>
    rintro id k W hk hj
    unfold valX
    generalize l.getD k 0 = x
    gi_wp2
    first | exact ⟨KeepsFrom.refl _ _, KeepB.refl _ _, hj, rfl⟩ | exact ⟨KeepsFrom.refl _ _, KeepB.refl _ _, hj, trivial⟩
  case done =>
    rintro D W hD ⟨v, h1, h2, h3, h4⟩ hK
    obtain ⟨c0, f0⟩ := cell_one h1
    have hsz : D ≠ w.heap.size := by omega
    have H2 := hid h2
    have H3 := hid h3
    obtain ⟨va, vc, rfl, hvc⟩ := own_form h2
    clear h2 h3
    gi_wp2
    refine ⟨by simp, .inl ⟨_, _, rfl, run_takeDeferred hK, ?_⟩⟩
    refine ⟨_, results_tmp rfl _ _ _, ⟨_, rfl, ?_⟩, ?_⟩
    · have h5 := own_put H2.out D (.deferred (some [])) (.deferred none) hK rfl
      rw [List.take_length] at h5
      refine ⟨h5.1, ?_⟩
      rcases h5.2 with h6 | ⟨g, cap', cur, hv, hB, r⟩
      · exact .inl h6
      · exact .inr ⟨g, cap', cur, hv, by omega, r⟩
    · exact (H3.out.trans (KeepB.put W D _ (by omega))).below
  case body =>
    rintro id k a1 W hk ⟨⟨v, h1, h2, h3, h4⟩, rfl⟩
    obtain ⟨c0, f0⟩ := cell_one h1
    have H1 := hid h1
    have H2 := hid h2
    have H3 := hid h3
    have hx : l.take (k + 1) = l.take k ++ [l.getD k 0] := by
      rw [List.take_succ_eq_append_getElem hk]
      simp [List.getD, hk]
    have HX := hid hx
    generalize l.getD k 0 = x at *
    have N3 : Hid (∀ j u, ([.int .i64 (x : Int)] : List Value)[j]? = some u → (W.alloc (.cells #[.int .i64 (x : Int)] 3)).cell? ((⟨W.heap.size, 0, none⟩ : Addr).add j) = some u) := World.news_of_block (cs := #[.int .i64 (x : Int)]) (t := 3) (fr := (0, 0)) (heap_alloc_new W _)
    have hlt : w.heap.size < W.heap.size := by omega
    clear h1 h2 h3 hx
    gi_wp2_with (gi_at_builtin; refine wpListIn_append_own _ rfl _ _ 28 rfl (w.heap.size + 1) 3 i3 (.int .i64 0) 1 8 Tryd.underlying28 hi3 z30 z31 z32 rfl (by decide) v k (intsV (l.take k)) rfl (H2.out.alloc _) ⟨W.heap.size, 0, none⟩ 1 1 [.int .i64 (x : Int)] rfl rfl N3.out (by simp [Value.oneCell']) (by unfold maxLen; omega) (by omega) (by simp; omega) ?_; intro v' w5 hown' hg5 hnil5; obtain ⟨va, vc, rfl, hvc⟩ := own_form hown'; have G5 := hid hg5; have O5 := hid hown'; have hb5 : w5.heap[w.heap.size]? = some (.cells #[v] 28) := ((gro_of_grown hg5).at ((below_box W _).block w.heap.size hlt |>.trans H1.out) (fun e => by have := (own_tag (H2.out.alloc (.cells #[.int .i64 (x : Int)] 3)) e).1; omega)); obtain ⟨c5, f5⟩ := cell_one hb5; have HB5 := hid hb5; clear hown' hg5 hnil5 hb5)
    have hg5 := gro_of_grown G5.out
    have hk5 : KeepB w.heap.size W w5 := (KeepB.of_below ((below_box W _).mono (by omega))).trans (KeepB.of_below (hg5.below w.heap.size (fun j hj => by have := (own_tag (H2.out.alloc (.cells #[.int .i64 (x : Int)] 3)) hj).1; omega) (by simp; omega)))
    refine ⟨?_, ?_, ?_⟩
    · refine KeepsOthers.from ?_ _
      exact ((KeepsOthers.alloc _ _).trans (KeepsOthers.of_grownBy G5.out (fun j o hj ho => by obtain ⟨_, c, hc⟩ := own_tag (H2.out.alloc (.cells #[.int .i64 (x : Int)] 3)) hj; rw [hc] at ho; cases ho; rfl))).trans (KeepsOthers.setCell _ _ _)
    · exact hk5.trans (keepB_set _ _ _)
    · refine ⟨_, Go.Joins.block_setCell HB5.out _, ?_, (H3.out.trans hk5).trans (keepB_set _ _ _), ?_⟩
      · have h6 := own_set O5.out w.heap.size 0 (.slice va (k + 1) vc) HB5.out (by decide)
        rw [HX.out]
        simpa [intsV] using h6
      · have h7 := hk5.size
        simp
        omega
set_option maxHeartbeats 2000000 in
theorem collect_is (Bs : Nat) (a : Option Addr) (l : List Nat) (cap : Nat) (w : World) (hlen : l.length ≤ 1000) (hcap : l.length ≤ cap) (hBs : w.cell? ⟨Bs, 0, none⟩ = some (.slice a l.length cap)) (hB1 : Bs < w.heap.size) (hc : IntsAt w w.heap.size a l) :
    Calls Tryd.prog 95 #[.func (.func 97) #[] #[.pointer (some ⟨Bs, 0, none⟩)]] w fun e w' => (∃ v, e = .returned v ∧ Ints w.heap.size w' v l) ∧ Below w.heap.size w w' := by
  have AP := hid (appSeq_is Bs a l cap w hlen hcap hBs hB1 hc)
  clear hBs hB1 hc
  go_enter Tryd.func95, Tryd.ntmps95
  go_wp2_with fail
  go_at_call 99
  refine AP.out.mono ?_
  rintro e w' ⟨⟨v, rfl, i4⟩, b4⟩
  have I4 := hid i4
  have B4 := hid b4
  obtain ⟨va, vc, rfl⟩ := i4.form
  clear i4 b4
  go_wp2_with fail
  go_ret
  exact ⟨⟨_, rfl, I4.out⟩, B4.out⟩
end Go.Proofs.YtjgmkigfpjmlaabDoor
