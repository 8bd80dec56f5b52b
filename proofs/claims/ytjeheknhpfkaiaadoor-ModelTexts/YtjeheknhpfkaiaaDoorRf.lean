/-
  A range over a function whose rounds are known ahead, one by one.
-/
import Derived.RangeFuncNested
import Derived.RangeFuncBound
import Derived.RangeFuncCalls
import Derived.RangeFuncLeaves
import Derived.Shelf.Abstract
import Derived.Shelf.RegionOpen
import Derived.WalkKit
import Derived.OwnWalkIn
import Derived.TacticsInMore
import Derived.LoopNIn
import Derived.LoopIn
import Derived.Test.YtjeheknhpfkaiaaDoorProg
namespace Go.Proofs.YtjeheknhpfkaiaaDoor
set_option linter.unusedVariables false
set_option linter.unusedSimpArgs false
open Go.RowKit Go.Shelf

section
variable {F : Fence} {n : Nat} {P : Program}

/-- An iterator that hands on just the rows xs 0, xs 1, .. up to N of them; a round keeps Kp. -/
def SeqDet (F : Fence) (n : Nat) (P : Program) (g : Nat) (lb : Array Value) (xs : Nat → Array Value) (N : Nat) (Kp : World → World → Prop) (w : World) : Prop :=
  ∀ (l : Nat) (J : Nat → World → Prop) (W : World), Below w.heap.size w W →
    (∀ k W1, k < N → J k W1 → YieldAt F (n - 1) P l (xs k) W1 fun e W' => e = .returned (.bool true) ∧ J (k + 1) W' ∧ Kp W1 W') →
    J 0 W → CallsIn F n P g (#[.func (.yield l) #[] #[]] ++ lb) W fun e W' => (∃ v, e = .returned v) ∧ J N W'
/-- A round goes on, and leaves I. -/
def detPost (B : Nat) (Kp : World → World → Prop) (J : World → Prop) (W : World) : Exit → Act → World → Prop
  | .normal, _, W' => KeepsFrom B W W' ∧ Kp W W' ∧ J W'
  | _, _, _ => False
/-- What stays when a block that is no cells is turned, at B or behind it. -/
def Stays (B : Nat) (J : World → Prop) : Prop := ∀ (W : World) (l : Nat) (o o' : Obj), J W → B ≤ l → W.heap[l]? = some o → o.isCells = false → J (W.putObj l o')

theorem wpIn_rangeFunc_det {g : Operand} {ps : Array Tmp} {assign body : Code} {Q : Exit → Act → World → Prop} {a : Act} {w : World} (hro : F.round = none) (h1 : 1 ≤ n)
    {gf : Nat} {lb : Array Value} (hg : a.eval g = .func (.func gf) #[] lb) (hFg : F.fn gf) (eg : ∀ args w, (callFunc gf args).run P w = .ok (.enter gf args) w)
    {xs : Nat → Array Value} {N : Nat} {Kp : World → World → Prop} {w0 : World} (hseq : SeqDet F (n - 1) P gf lb xs N Kp w0) (hb0 : Below w0.heap.size w0 w) (hps : ∀ k, (xs k).size = ps.size)
    (hKt : ∀ {A B C : World}, Kp A B → Kp B C → Kp A C) (hKb : ∀ (W : World) (l : Nat) (o o' : Obj), w.heap.size ≤ l → W.heap[l]? = some o → o.isCells = false → Kp W (W.putObj l o'))
    (J : Nat → World → Prop) (hJ : ∀ k, Stays w.heap.size (J k)) (h0 : ∀ o1 o2, J 0 ((w.alloc o1).alloc o2))
    (Ax : Nat → Act → World → Prop) (hAx : ∀ k a, Stays w.heap.size (Ax k a))
    (hassign : ∀ (l k : Nat) (W : World), k < N → J k W → assign.wpIn (F.inRound l) (n - 1 - 1) P (Exit.then (fun a1 W1 => KeepsFrom w.heap.size W W1 ∧ Kp W W1 ∧ Ax k a1 W1) (fun _ _ _ => False)) { tmps := (ps.zip (xs k)).foldl (fun t (p, v) => t.setIfInBounds p v) a.tmps, defers := [] } W)
    (hbody : ∀ (l k : Nat) (a1 : Act) (W : World), k < N → Ax k a1 W → body.wpIn (F.inRound l) (n - 1 - 1) P (detPost w.heap.size Kp (J (k + 1)) W) a1 W)
    (hdone : ∀ (D : Nat) (W : World), w.heap.size ≤ D → J N W → W.heap[D]? = some (.deferred (some [])) → Q .normal { a with defers := { target := .collected D, args := #[] } :: a.defers } W) :
    (Code.rangeFunc g ps assign body).wpIn F n P Q a w := by
  refine wpIn_rangeFunc fun fn hfn => ?_
  rw [hro]
  obtain ⟨B, hB⟩ : ∃ B, w.heap.size = B := ⟨_, rfl⟩
  rw [hB] at hKb hJ hAx hassign hbody hdone
  obtain ⟨R, hR⟩ : ∃ R : LoopState → Option Code → Loop, R = fun st pe => { state := st, pending := pe, fn, tmps := a.tmps, params := ps, assign, body, defers := B } := ⟨_, rfl⟩
  have henter := run_enterLoop_outer (P := P) (w := w) fn a.tmps ps assign body
  rw [hB] at henter
  obtain ⟨W1, hW1⟩ : ∃ W1, (w.alloc (.deferred (some []))).alloc (.loop (R .ready none)) = W1 := ⟨_, rfl⟩
  have hs1 : W1.heap.size = B + 2 := by rw [← hW1, World.size_alloc, World.size_alloc, hB]
  have hrec : W1.heap[B + 1]? = some (.loop (R .ready none)) := by
    rw [← hW1]
    have := World.alloc_heap_new (w.alloc (.deferred (some []))) (.loop (R .ready none))
    rwa [World.size_alloc, hB] at this
  have hdef : W1.heap[B]? = some (.deferred (some [])) := by
    rw [← hW1, ← hB]
    exact (Below.heap_alloc _ _ _ (by simp)).trans (World.alloc_heap_new w _)
  have hbel : Below w0.heap.size w0 W1 := by
    rw [← hW1]
    exact hb0.trans ((((Below.refl _ w).alloc (Nat.le_refl _) _).alloc (by simp) _).mono hb0.size)
  have hJ0 : J 0 W1 := by rw [← hW1]; exact h0 _ _
  refine ⟨B + 1, [{ target := .collected B, args := #[] }], W1, { target := .fn (.func gf) lb, args := #[.func (.yield (B + 1)) #[] #[]] }, W1, gf, #[.func (.yield (B + 1)) #[] #[]] ++ lb, W1, ?_, ?_, ?_, ?_, fun _ => h1, ?_⟩
  · rw [henter, ← hW1, hR]
  · simp only [resolve, hg]
    simp [go_sem]
  · intro f' hf'
    simp [Target.leads] at hf'
    subst hf'
    exact hFg
  · simp [invoke, go_sem, eg]
  · refine (hseq (B + 1) (fun k W => J k W ∧ W.heap[B + 1]? = some (.loop (R .ready none)) ∧ W.heap[B]? = some (.deferred (some []))) W1 hbel ?_ ⟨hJ0, hrec, hdef⟩).mono ?_
    · rintro k W hk ⟨hj, hl, hd⟩
      have hy := run_yield (P := P) (args := xs k) hl (by rw [hR]; exact hps k)
      rw [hR] at hy
      refine ⟨fn, _, assign, body, hy, roundIn_of_wpIn hfn (wpIn_mono (hassign (B + 1) k W hk hj) ?_)⟩
      rintro e a1 W2 he
      cases e with
      | normal =>
        obtain ⟨hk2, hp2, hx2⟩ := he
        have hl2 : W2.heap[B + 1]? = some (.loop (R .ready none)) := hk2.same (B + 1) _ (by omega) hl rfl
        have hd2 : W2.heap[B]? = some (.deferred (some [])) := hk2.same B _ (by omega) hd rfl
        refine ⟨_, run_beginRound hl2 (by rw [hR]), ?_⟩
        have hlt2 : B + 1 < W2.heap.size := (Array.getElem?_eq_some_iff.1 hl2).1
        refine wpIn_mono (hbody (B + 1) k a1 _ hk (hAx k a1 _ _ _ _ hx2 (by omega) hl2 rfl)) ?_
        rintro e a3 W3 h3
        cases e with
        | normal =>
          obtain ⟨hk3, hp3, hj3⟩ := h3
          have hl3 := hk3.same (B + 1) _ (by omega) (World.putObj_heap_same hlt2) rfl
          have hd3 := hk3.same B _ (by omega) ((World.putObj_heap_other (w := W2) (r := B + 1) (by omega)).trans hd2) rfl
          have hlt3 : B + 1 < W3.heap.size := (Array.getElem?_eq_some_iff.1 hl3).1
          have hend := run_endRound (P := P) none hl3
          refine ⟨_, _, hend, rfl, ⟨hJ (k + 1) _ _ _ _ hj3 (by omega) hl3 rfl, ?_, (World.putObj_heap_other (by omega)).trans hd3⟩, ?_⟩
          · rw [World.putObj_heap_same hlt3, hR]
            rfl
          · exact hKt (hKt (hKt hp2 (hKb _ _ _ _ (by omega) hl2 rfl)) hp3) (hKb _ _ _ _ (by omega) hl3 rfl)
        | _ => exact h3.elim
      | _ => exact he.elim
    · rintro e W2 ⟨⟨v, rfl⟩, hj, hl, hd⟩
      refine ⟨none, _, by have := run_endLoop (P := P) hl (by rw [hR]; simp); rw [hR] at this; exact this, ?_⟩
      exact hdone B _ (Nat.le_refl _) (hJ N _ _ _ _ hj (by omega) hl rfl) ((World.putObj_heap_other (by omega)).trans hd)
/-- No operation of a region defers a call. -/
def noDefer (ops : Array Oper) : Bool := ops.toList.all fun o => match o.op with
  | .defer _ => false
  | _ => true
theorem noDefer_at {ops : Array Oper} (h : noDefer ops = true) {i : Nat} {o : Oper} (ho : ops[i]? = some o) : ∀ c, o.op ≠ .defer c := fun c hc => by
  have h1 := List.all_eq_true.1 h o (by rw [Array.mem_toList_iff]; exact Array.mem_of_getElem? ho)
  rw [hc] at h1
  cases h1
/-- Such a region goes in a round as elsewhere. -/
theorem wpAnyIn_inRound {ops : Array Oper} {Q : Exit → Act → World → Prop} {md : Region.Mode} (hro : F.round = none) (hd : noDefer ops = true) (l : Nat) : ∀ (fuel : Nat) (listed : Array Bool) (a : Act) (w : World), wpAnyIn F n P md ops Q fuel listed a w → wpAnyIn (F.inRound l) n P md ops Q fuel listed a w
  | 0, listed, a, w, h => h
  | fuel + 1, listed, a, w, h => by
    refine ⟨h.1, fun i hi => ?_⟩
    have h2 := h.2 i hi
    have h3 := wpOpIn_mono (fun a w => wpAnyIn_inRound hro hd l fuel (listed.setIfInBounds i true) a w) h2
    unfold wpOpIn at h3 ⊢
    cases ho : ops[i]? with
    | none => simp only [ho] at h3 ⊢; exact h3
    | some o =>
      simp only [ho] at h3 ⊢
      by_cases hw : Region.wanted o (yielded ops a.tmps) = true
      · simp only [hw, if_true] at h3 ⊢
        refine ⟨h3.1, ?_⟩
        have h4 := h3.2
        rw [Oper.semAt_eq _ _ _ (noDefer_at hd ho)] at h4 ⊢
        exact h4
      · simp only [hw] at h3 ⊢
        exact h3
end
end Go.Proofs.YtjeheknhpfkaiaaDoor
