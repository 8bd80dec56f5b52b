/-
  The document's Check.
  PairChecks, PairGone.
  PairBegins.
  Events in memory of their own; processes named otherwise, plain.
-/
import Derived.Test.YtjobdfgcgnpppaaDoorJ10
import Derived.Test.YtjobdfgcgnpppaaDoorJ9
import Derived.Test.YtjobdfgcgnpppaaDoorJ4
import Derived.Laws.MakeOwn
import Derived.Test.YtjobdfgcgnpppaaDoorJ2
namespace Go.Proofs.YtjobdfgcgnpppaaDoor
set_option linter.unusedVariables false
set_option linter.unusedSimpArgs false
open Go.RowKit Go.Lib Go.Maps

theorem Tryd.infoPr : (Tryd.prog.info? 51).map (fun i => (i.zero, i.size, i.bytes)) = some (some (.agg #[.bool false, .int .i64 0]), 2, 16) := by kernel_rfl
theorem ps_at (q : Nat) (hq : q < 100) : (madeCells #[Value.bool false, .int .i64 0] 200)[q * 2]? = some (.bool false) ∧ (madeCells #[Value.bool false, .int .i64 0] 200)[q * 2 + 1]? = some (.int .i64 0) := by
  have h : (List.range 100).all (fun q => (match (madeCells #[Value.bool false, .int .i64 0] 200)[q * 2]? with | some (.bool false) => true | _ => false) && (match (madeCells #[Value.bool false, .int .i64 0] 200)[q * 2 + 1]? with | some (.int .i64 0) => true | _ => false)) = true := by kernel_rfl
  rw [List.all_eq_true] at h
  have h1 := h q (List.mem_range.2 hq)
  rw [Bool.and_eq_true] at h1
  obtain ⟨h2, h3⟩ := h1
  constructor
  · split at h2
    · assumption
    · cases h2
  · split at h3
    · assumption
    · cases h3
theorem mkPs (W : World) : (Instr.makeSlice 49 (.int .i64 100) (.int .i64 100)).run Tryd.prog W = .ok (.slice (some ⟨W.heap.size, 0, none⟩) 100 100) (W.alloc (.cells (madeCells #[Value.bool false, .int .i64 0] 200) 51)) := by
  obtain ⟨i0, hi, hz0, hz1, hz2⟩ := info_parts Tryd.infoPr
  have := run_make (P := Tryd.prog) (w := W) 49 51 i0 _ Tryd.underlying49 hi hz0 .i64 .i64 100 100 (by decide) (by decide) (by rw [hz2]; decide) (by decide)
  rw [this, hz1]
  rfl
/-- The place of an open invocation, or -1. -/
def opI (l : List MEv) (k : Nat) (p : Int) : Int := match opnP l k p with
  | none => -1
  | some i => (i : Int)
/-- The processes, as the document holds them. -/
def PC (w : World) (sb : Nat) (l : List MEv) (k : Nat) : Prop := (∀ q : Nat, q < 100 → w.cell? ⟨sb, q * 2, none⟩ = some (.bool (goneP l k (q : Int))) ∧ w.cell? ⟨sb, q * 2 + 1, none⟩ = some (.int .i64 (opI l k (q : Int)))) ∧ ∀ o, w.frozen? ⟨sb, o, none⟩ = false
theorem PC.same {w w' : World} {sb : Nat} {l : List MEv} {k : Nat} (h : PC w sb l k) (e : w'.heap[sb]? = w.heap[sb]?) : PC w' sb l k := ⟨fun q hq => ⟨cell_same e (h.1 q hq).1, cell_same e (h.1 q hq).2⟩, fun o => (frozen_same e o).trans (h.2 o)⟩
theorem PC.put {V : World} {sb : Nat} {l : List MEv} {k p : Nat} {ek : Int} {O : List MOp} (h : PC V sb l k) (hE : l.getD k default = (ek, (p : Int), O)) (hp : p < 100) (hg : ek = 1 → goneP l k (p : Int) = false) :
    PC (if ek = 1 then V.setCell ⟨sb, p * 2 + 1, none⟩ (.int .i64 (k : Int)) else (V.setCell ⟨sb, p * 2 + 1, none⟩ (.int .i64 (-1))).setCell ⟨sb, p * 2, none⟩ (.bool (ek == 4))) sb l (k + 1) := by
  have eg : ∀ q : Int, goneP l (k + 1) q = if (p : Int) = q then ek == 4 else goneP l k q := fun q => by
    show (if (l.getD k default).proc = q then (l.getD k default).kind == 4 else goneP l k q) = _
    rw [hE]
  have e0 : ∀ q : Int, opnP l (k + 1) q = if (p : Int) = q then (if ek = 1 then some k else none) else opnP l k q := fun q => by
    show (if (l.getD k default).proc = q then (if (l.getD k default).kind = 1 then some k else none) else opnP l k q) = _
    rw [hE]
  have eo : ∀ q : Int, opI l (k + 1) q = if (p : Int) = q then (if ek = 1 then (k : Int) else -1) else opI l k q := fun q => by
    unfold opI
    rw [e0]
    by_cases e : (p : Int) = q
    · rw [if_pos e, if_pos e]
      by_cases e1 : ek = 1
      · rw [if_pos e1, if_pos e1]
      · rw [if_neg e1, if_neg e1]
    · rw [if_neg e, if_neg e]
  have oth : ∀ (V : World) (o o' : Nat) (u u' : Value), o ≠ o' → V.cell? ⟨sb, o, none⟩ = some u → (V.setCell ⟨sb, o', none⟩ u').cell? ⟨sb, o, none⟩ = some u := fun V o o' u u' hne hu => (World.cell?_setCell_other _ _ _ _ (fun c => hne (by have := congrArg Addr.off c; simpa using this.symm))).trans hu
  by_cases h1 : ek = 1
  · rw [if_pos h1]
    refine ⟨fun q hq => ?_, fun o => by rw [World.frozen?_setCell]; exact h.2 o⟩
    obtain ⟨a1, a2⟩ := h.1 q hq
    rw [eg, eo, if_pos h1]
    by_cases e : p = q
    · subst e
      rw [if_pos rfl, if_pos rfl]
      refine ⟨(oth _ _ _ _ _ (by omega) a1).trans ?_, World.cell?_setCell_same _ _ _ a2⟩
      rw [hg h1, h1]
      rfl
    · rw [if_neg (by omega), if_neg (by omega)]
      exact ⟨oth _ _ _ _ _ (by omega) a1, oth _ _ _ _ _ (by omega) a2⟩
  · rw [if_neg h1]
    refine ⟨fun q hq => ?_, fun o => by rw [World.frozen?_setCell, World.frozen?_setCell]; exact h.2 o⟩
    obtain ⟨a1, a2⟩ := h.1 q hq
    rw [eg, eo, if_neg h1]
    by_cases e : p = q
    · subst e
      rw [if_pos rfl, if_pos rfl]
      exact ⟨World.cell?_setCell_same _ _ _ (oth _ _ _ _ _ (by omega) a1), oth _ _ _ _ _ (by omega) (World.cell?_setCell_same _ _ _ a2)⟩
    · rw [if_neg (by omega), if_neg (by omega)]
      exact ⟨oth _ _ _ _ _ (by omega) (oth _ _ _ _ _ (by omega) a1), oth _ _ _ _ _ (by omega) (oth _ _ _ _ _ (by omega) a2)⟩
/-- What is wrong with event k, the keys aside. -/
def stepF (l : List MEv) (k : Nat) : Int := rsR ((l.getD k default).kind == 1) (opnP l k (l.getD k default).proc).isSome (goneP l k (l.getD k default).proc) (askedO l k (l.getD k default).proc (l.getD k default).ops) (fitB (l.getD k default))
theorem rs_core (inv opn gn ask fit mix : Bool) : (if inv then (if opn || gn then (30 : Int) else if !fit then 32 else if mix then 33 else 0) else (if !opn then 31 else if !ask then 32 else if !fit then 32 else if mix then 33 else 0)) = if rsR inv opn gn ask fit = 0 then (if mix then 33 else 0) else rsR inv opn gn ask fit := by
  cases inv <;> cases opn <;> cases gn <;> cases ask <;> cases fit <;> cases mix <;> rfl
theorem step_rs (l : List MEv) (k : Nat) : stepE l k = if stepF l k = 0 then (if mixB (opsP l k) (l.getD k default).ops then 33 else 0) else stepF l k := by
  unfold stepF
  rw [← rs_core]
  unfold stepE askedO
  generalize l.getD k default = E
  obtain ⟨ek, p, O⟩ := E
  by_cases h1 : ek = 1
  · subst h1
    rfl
  · have h1b : (ek == 1) = false := by simpa using h1
    simp only [MEv.kind, MEv.proc, MEv.ops]
    rw [if_neg h1, h1b]
    cases opnP l k p with
    | none => rfl
    | some i => rfl
/-- What Check comes to. -/
def ChkR (l : List MEv) (a y : Int) : Prop :=
  (canM l = false ∧ a = 0 ∧ y = 1) ∨ (canM l = true ∧ ∃ k, k < l.length ∧ (∀ j, j < k → stepE l j = 0) ∧ stepE l k ≠ 0 ∧ a = (k : Int) ∧ y = stepE l k) ∨ (canM l = true ∧ (∀ j, j < l.length → stepE l j = 0) ∧ a = 0 ∧ y = 0)
theorem ChkR.arg {l : List MEv} (h : canM l = false) : ChkR l 0 1 := .inl ⟨h, rfl, rfl⟩
theorem ChkR.bad {l : List MEv} (h : canM l = true) (k : Nat) (hk : k < l.length) (hz : ∀ j, j < k → stepE l j = 0) (hs : stepE l k ≠ 0) : ChkR l (k : Int) (stepE l k) := .inr (.inl ⟨h, k, hk, hz, hs, rfl, rfl⟩)
theorem ChkR.good {l : List MEv} (h : canM l = true) (hz : ∀ j, j < l.length → stepE l j = 0) : ChkR l 0 0 := .inr (.inr ⟨h, hz, rfl, rfl⟩)
theorem TxnsR.chk {l : List MEv} {B : Nat} {w : World} {v : Value} {a y : Int} (h : TxnsR l B w v a y) : ChkR l a y := by
  rcases h with ⟨h, _, h1, h2⟩ | ⟨h, k, hk, hz, hs, _, h1, h2⟩ | ⟨h, hz, _, h1, h2⟩
  · exact .inl ⟨h, h1, h2⟩
  · exact .inr (.inl ⟨h, k, hk, hz, hs, h1, h2⟩)
  · exact .inr (.inr ⟨h, hz, h1, h2⟩)
theorem ChkR.one {l : List MEv} {a y a' y' : Int} (h : ChkR l a y) (h' : ChkR l a' y') : a = a' ∧ y = y' := by
  rcases h with ⟨h, rfl, rfl⟩ | ⟨h, k, hk, hz, hs, rfl, rfl⟩ | ⟨h, hz, rfl, rfl⟩ <;> rcases h' with ⟨h2, rfl, rfl⟩ | ⟨h2, k', hk', hz', hs', rfl, rfl⟩ | ⟨h2, hz', rfl, rfl⟩
  · exact ⟨rfl, rfl⟩
  · rw [h] at h2; cases h2
  · rw [h] at h2; cases h2
  · rw [h] at h2; cases h2
  · have e : k = k' := by
      rcases Nat.lt_trichotomy k k' with c | c | c
      · exact absurd (hz' k c) hs
      · exact c
      · exact absurd (hz k' c) hs'
    subst e
    exact ⟨rfl, rfl⟩
  · exact absurd (hz' k hk) hs
  · rw [h] at h2; cases h2
  · exact absurd (hz k' hk') hs'
  · exact ⟨rfl, rfl⟩
theorem ChkR.zero {l : List MEv} {a y : Int} (h : ChkR l a y) : y = 0 → a = 0 := by
  rcases h with ⟨h, rfl, rfl⟩ | ⟨h, k, hk, hz, hs, rfl, rfl⟩ | ⟨h, hz, rfl, rfl⟩
  · intro c; cases c
  · intro c; exact absurd c hs
  · intro _; rfl
/-- The operations of the first k events. -/
def opsL (l : List MEv) (k : Nat) : List (List MOp) := (List.range k).map fun j => (l.getD j default).ops
theorem opsL_len (l : List MEv) (k : Nat) : (opsL l k).length = k := by simp [opsL]
theorem opsL_succ (l : List MEv) (k : Nat) : opsL l (k + 1) = opsL l k ++ [(l.getD k default).ops] := by simp [opsL, List.range_succ]
theorem opsL_flat (l : List MEv) : ∀ k, (opsL l k).flatten = opsP l k
  | 0 => rfl
  | k + 1 => by
    rw [opsL_succ, List.flatten_append, opsL_flat l k]
    simp [opsP]
/-- Rows that lead into memory below H. -/
def AhR (H : Nat) (w : World) (vals : List Value) (X : List (List MOp)) : Prop := vals.length = X.length ∧ ∀ j, j < X.length → OpsIn (fun b => b < H) w (vals.getD j undef) (X.getD j default)
theorem AhR.all {H : Nat} {w : World} {vals : List Value} {X : List (List MOp)} (h : AhR H w vals X) : AllR w vals X := ⟨h.1, fun j hj => (h.2 j hj).keep (fun _ _ _ => rfl) (fun _ _ _ => trivial)⟩
theorem AhR.keep {H : Nat} {w w' : World} {vals : List Value} {X : List (List MOp)} (h : AhR H w vals X) (hk : ∀ b, b < H → b < w.heap.size → w'.heap[b]? = w.heap[b]?) : AhR H w' vals X := ⟨h.1, fun j hj => (h.2 j hj).keep (fun b hb hl => hk b hb hl) (fun _ _ hb => hb)⟩
theorem AhR.snoc {H : Nat} {w : World} {vals : List Value} {X : List (List MOp)} {v : Value} {O : List MOp} (h : AhR H w vals X) (hv : OpsIn (fun b => b < H) w v O) : AhR H w (vals ++ [v]) (X ++ [O]) := by
  refine ⟨by simp [h.1], fun j hj => ?_⟩
  simp at hj
  by_cases e : j < X.length
  · rw [getD_snoc_old e]
    have e2 : (vals ++ [v]).getD j undef = vals.getD j undef := by simp [List.getD, List.getElem?_append_left (show j < vals.length by rw [h.1]; exact e)]
    rw [e2]
    exact h.2 j e
  · have ej : j = X.length := by omega
    rw [getD_snoc_new ej]
    have e2 : (vals ++ [v]).getD j undef = v := by
      rw [ej, ← h.1]
      simp [List.getD]
    rw [e2]
    exact hv
/-- The processes while they are filled. -/
def PF (W w : World) (sb q : Nat) : Prop := ButB sb W w ∧ (∀ r : Nat, r < 100 → w.cell? ⟨sb, r * 2, none⟩ = some (.bool false) ∧ w.cell? ⟨sb, r * 2 + 1, none⟩ = some (.int .i64 (if r < q then -1 else 0))) ∧ ∀ o, w.frozen? ⟨sb, o, none⟩ = false
theorem PF.next {W w : World} {sb q : Nat} (h : PF W w sb q) (hq : q < 100) : PF W (w.setCell ⟨sb, q * 2 + 1, none⟩ (.int .i64 (-1))) sb (q + 1) := by
  refine ⟨⟨h.1.1, h.1.2.1, h.1.2.2.1, by simpa [World.setCell] using h.1.2.2.2.1, fun b hb hn => (set_ne hn).trans (h.1.2.2.2.2 b hb hn)⟩, fun r hr => ?_, fun o => by rw [World.frozen?_setCell]; exact h.2.2 o⟩
  obtain ⟨a1, a2⟩ := h.2.1 r hr
  refine ⟨(World.cell?_setCell_other _ _ _ _ (fun c => by have := congrArg Addr.off c; simp only [] at this; omega)).trans a1, ?_⟩
  by_cases e : r = q
  · subst e
    rw [if_pos (by omega)]
    exact World.cell?_setCell_same _ _ _ a2
  · refine (World.cell?_setCell_other _ _ _ _ (fun c => by have := congrArg Addr.off c; simp only [] at this; omega)).trans (a2.trans ?_)
    by_cases e2 : r < q
    · rw [if_pos e2, if_pos (by omega)]
    · rw [if_neg e2, if_neg (by omega)]
/-- What is known at the head of the second loop. -/
def ChI (w : World) (sb : Nat) (l : List MEv) (k : Nat) (av : Value) (wr : World) : Prop := PC wr sb l k ∧ (∃ vals, wr.ownsRow (sb + 1) 40 1 av k vals ∧ AhR w.heap.size wr vals (opsL l k)) ∧ Below w.heap.size w wr ∧ sb < wr.heap.size ∧ ∀ j, j < k → stepE l j = 0
set_option maxHeartbeats 8000000 in
set_option maxRecDepth 100000 in
theorem rcheck_is {S : Nat → Prop} (w : World) (v : Value) (l : List MEv) (h : EvsIn S w v l) (hkf : KeysFit l) :
    Calls Tryd.prog 11 #[v] w fun e w' => ∃ a y, e = .returned (.tuple #[.int .i64 a, .int .i64 y]) ∧ Below w.heap.size w w' ∧ ChkR l a y := by
  have CAN := hid (refCan_any v l w hkf h)
  cases hcan : canM l with
  | false =>
    rw [hcan] at CAN
    have HC := hid hcan
    clear h hcan hkf
    go_enter Tryd.func11, Tryd.ntmps11
    go_wp2_with (go_at_call 19; refine CAN.out.mono ?_; rintro e w1 ⟨rfl, b1⟩; have B1 := hid b1; clear b1)
    go_ret2
    exact ⟨0, 1, rfl, B1.out, .arg HC.out⟩
  | true =>
    rw [hcan] at CAN
    have HC := hid hcan
    obtain ⟨a1, c1, rfl, hbig, k0⟩ := RowsIn.cells h (by omega)
    have HR := hid k0
    have hl300 : l.length ≤ 300 := by
      unfold canM at hcan
      rw [Bool.and_eq_true, decide_eq_true_eq] at hcan
      exact hcan.1
    have hli : (l.length : Int) ≤ 300 := by omega
    have hmk := mkPs
    clear h hcan k0 hkf
    go_enter Tryd.func11, Tryd.ntmps11
    go_upto_region 4 with (go_at_call 19; refine CAN.out.mono ?_; rintro e w1 ⟨rfl, b1⟩; have B1 := hid b1; clear b1)
    clear hmk
    obtain ⟨W, hW⟩ : ∃ W, w1.alloc (.cells (madeCells #[Value.bool false, .int .i64 0] 200) 51) = W := ⟨_, rfl⟩
    have BW1 : Hid (Below w.heap.size w W) := by rw [← hW]; exact bstep (below_box _ _) B1.out
    have hwl : w.heap.size ≤ w1.heap.size := B1.out.size
    obtain ⟨sb, hsb⟩ : ∃ sb, w1.heap.size = sb := ⟨_, rfl⟩
    have WS : Hid (W.heap.size = sb + 1) := by show _ = _; rw [← hW, ← hsb]; simp
    have P0 : Hid (PF W W sb 0) := by
      refine ⟨ButB.refl _ _, fun r hr => ?_, fun o => ?_⟩
      · obtain ⟨q1, q2⟩ := ps_at r hr
        rw [if_neg (Nat.not_lt_zero _), ← hW, ← hsb]
        exact ⟨(new_cells w1 _ 51 _).trans q1, (new_cells w1 _ 51 _).trans q2⟩
      · rw [← hW, ← hsb]
        exact Lib.frozen_of_heap (heap_alloc_new _ _) o
    rw [hsb] at hwl
    rw [hW]
    rw [hsb]
    clear hW B1 hsb
    go_wp2_with fail
    go_loopg [5, 16] 100 (fun gg _ i wr => ∃ q : Nat, q ≤ 100 ∧ 100 - q ≤ gg ∧ i = .int .i64 q ∧ Aside (PF W wr sb q))
    case atStart => exact ⟨0, Nat.zero_le _, by omega, rfl, P0.out⟩
    case round =>
      obtain ⟨q, hq, hgq, rfl, AR⟩ := hrel
      by_cases hlt : q < 100
      · have hlti : (q : Int) < 100 := by omega
        have c1 := (AR.out.2.1 q hlt).2
        have f1 := AR.out.2.2 (q * 2 + 1)
        have N1 := hid (AR.out.next hlt)
        clear AR
        go_wp2_with fail
        go_roundg (100 - (q + 1))
        case measure => omega
        case rel => exact ⟨q + 1, by omega, by omega, by go_num, N1.out⟩
      · have hq100 : q = 100 := by omega
        subst hq100
        have CH0 : Hid (ChI w sb l 0 (.slice none 0 0) wr) := by
          have q1 := AR.out.1
          refine ⟨⟨fun r hr => ?_, AR.out.2.2⟩, ⟨[], World.ownsRow_nil _ _ _ _, rfl, fun j hj => absurd hj (Nat.not_lt_zero _)⟩, ⟨q1.1.trans BW1.out.os, q1.2.1.trans BW1.out.tape, q1.2.2.1.trans BW1.out.output, Nat.le_trans BW1.out.size q1.2.2.2.1, fun b hb => (q1.2.2.2.2 b (Nat.lt_of_lt_of_le hb BW1.out.size) (by omega)).trans (BW1.out.block b hb)⟩, ?_, fun j hj => absurd hj (Nat.not_lt_zero _)⟩
          · have := AR.out.2.1 r hr
            rw [if_pos hr] at this
            exact this
          · have := q1.2.2.2.1
            have := WS.out
            omega
        have B0 : Hid (Below w.heap.size w wr) := CH0.out.2.2.1
        clear AR P0
        go_wp2_with fail
        go_loopg [6, 7, 8, 9, 26] l.length (fun gg av _ _ _ i wr => ∃ k : Nat, k ≤ l.length ∧ l.length - k ≤ gg ∧ i = .int .i64 k ∧ Aside (ChI w sb l k av wr))
        case atStart => exact ⟨0, Nat.zero_le _, by omega, rfl, CH0.out⟩
        case round =>
          clear CH0 B0
          obtain ⟨k, hk, hgk, rfl, CI⟩ := hrel
          by_cases hltk : k < l.length
          · have hltki : (k : Int) < (l.length : Int) := by omega
            obtain ⟨PCk, ⟨vals, hown, hah⟩, hbel, hsbl, hz⟩ := CI.out
            have BR := hid hbel
            obtain ⟨b1, o1, cs, rfl, hb1, _, ⟨ov, rfl, hov⟩, hcs⟩ := HR.out k hltk
            obtain ⟨⟨q1, q2, q3, q4, q5, q6⟩, q7⟩ := can_ev HC.out hltk
            have d0 : wr.cell? ⟨b1, o1 + k * 3, none⟩ = _ := cell_later hbel (hcs 0 _ rfl)
            have d1 := cell_later hbel (hcs 1 _ rfl)
            have d2 := cell_later hbel (hcs 2 _ rfl)
            obtain ⟨p, hp⟩ : ∃ p : Nat, (l.getD k default).proc = (p : Int) := ⟨(l.getD k default).proc.toNat, by omega⟩
            have hE : l.getD k default = ((l.getD k default).kind, (p : Int), (l.getD k default).ops) := by rw [← hp]
            rw [hp] at d1 q4
            have hp100 : p < 100 := by omega
            have hov2 : OpsIn (fun b => b < w.heap.size) w ov (l.getD k default).ops := hov.keep (fun _ _ _ => rfl) (fun b hb _ => hb)
            obtain ⟨oa, oc, rfl, _⟩ := id hov
            have SE := hid (step_rs l k)
            have SF : Hid (stepF l k = rsR ((l.getD k default).kind == 1) (opnP l k (p : Int)).isSome (goneP l k (p : Int)) (askedO l k (p : Int) (l.getD k default).ops) (fitB (l.getD k default))) := by
              show _ = _
              unfold stepF
              rw [hp]
            have ST : Hid (∀ V, Below wr.heap.size wr V → Calls Tryd.prog 20 #[.slice (some ⟨b1, o1, none⟩) l.length c1, .int .i64 (k : Int), .pointer (some ⟨sb, p * 2, none⟩)] V fun e w' => StepP V sb k p (l.getD k default).kind (stepF l k) e w') := fun V hV => by
              rw [SF.out]
              have hfit : filB (l.getD k default).ops ((l.getD k default).kind == 2) = fitB (l.getD k default) := fil_fit (fun o ho => (q7 o ho).1)
              have cV : ∀ {a u}, wr.cell? a = some u → V.cell? a = some u := fun hc => cell_later hV hc
              have fV : ∀ o, V.frozen? ⟨sb, o, none⟩ = false := fun o => (hV.frozen (p := ⟨sb, o, none⟩) hsbl).trans (PCk.2 o)
              have s1 := (PCk.1 p hp100).2
              cases hq : opnP l k (p : Int) with
              | none =>
                have s1' : wr.cell? ⟨sb, p * 2 + 1, none⟩ = some (.int .i64 (-1)) := by rw [s1]; unfold opI; rw [hq]
                exact step_walk (S' := Any) (X := []) (xv := undef) (i := 0) (opn := false) V b1 o1 l.length c1 k p sb _ (-1) _ _ _ (goneP l k (p : Int)) (askedO l k (p : Int) (l.getD k default).ops) _ hltk hl300 rfl rfl (cV d0) (cV d1) (cV d2) (cV (PCk.1 p hp100).1) (cV s1') (fV _) (fV _) (fun c => by cases c) (hov.keep (T := Any) (keeps_below (bstep hV hbel)) (fun _ _ _ => trivial)) hfit
              | some i =>
                have hat := opnP_at hq
                have s1' : wr.cell? ⟨sb, p * 2 + 1, none⟩ = some (.int .i64 (i : Int)) := by rw [s1]; unfold opI; rw [hq]
                obtain ⟨b2, o2, cs2, hab, hb2, _, ⟨xv, rfl, hxv⟩, hcs2⟩ := HR.out i (by omega)
                injection hab with hab
                injection hab with hb' ho'
                subst hb' ho'
                exact step_walk (S' := Any) V b1 o1 l.length c1 k p sb _ (i : Int) _ (l.getD i default).ops _ xv i _ true (goneP l k (p : Int)) (askedO l k (p : Int) (l.getD k default).ops) _ hltk hl300 rfl rfl (cV d0) (cV d1) (cV d2) (cV (PCk.1 p hp100).1) (cV s1') (fV _) (fV _) (fun _ => ⟨by omega, cell_later (bstep hV hbel) (hcs2 2 _ rfl), hxv.keep (T := Any) (keeps_below (bstep hV hbel)) (fun _ _ _ => trivial), by unfold askedO; rw [hq]⟩) (hov.keep (T := Any) (keeps_below (bstep hV hbel)) (fun _ _ _ => trivial)) hfit
            have hgo : stepF l k = 0 → (l.getD k default).kind = 1 → goneP l k (p : Int) = false := fun h0 h1 => by
              have q := SF.out.symm.trans h0
              rw [h1] at q
              unfold rsR at q
              cases hg : goneP l k (p : Int) with
              | false => rfl
              | true => rw [hg] at q; simp at q
            have PCN : Hid (∀ V, Below wr.heap.size wr V → stepF l k = 0 → PC (if (l.getD k default).kind = 1 then V.setCell ⟨sb, p * 2 + 1, none⟩ (.int .i64 (k : Int)) else (V.setCell ⟨sb, p * 2 + 1, none⟩ (.int .i64 (-1))).setCell ⟨sb, p * 2, none⟩ (.bool ((l.getD k default).kind == 4))) sb l (k + 1)) := fun V hV h0 => PC.put (PCk.same (hV.block sb hsbl)) hE hp100 (hgo h0)
            have MIX : Hid (∀ V, (∀ b, b < wr.heap.size → b ≠ sb → V.heap[b]? = wr.heap[b]?) → Calls Tryd.prog 21 #[u6, .slice oa (l.getD k default).ops.length oc] V fun e w' => e = .returned (.bool (mixB (opsP l k) (l.getD k default).ops)) ∧ Below V.heap.size V w') := fun V hV => by
              have q := mixed_is V (sb + 1) k u6 (.slice oa (l.getD k default).ops.length oc) vals (opsL l k) (l.getD k default).ops (owns_keep hown (fun g hg => hV g (hown.lt g hg).2 (by have := (hown.lt g hg).1; omega))) (AhR.all (hah.keep (fun b hb hl => hV b hl (by omega)))) (opsL_len l k) (by omega) (hov2.keep (fun b hb hl => (hV b (Nat.lt_of_lt_of_le hl hbel.size) (by omega)).trans (hbel.block b hl)) (fun _ _ _ => trivial))
              rw [opsL_flat] at q
              exact q
            obtain ⟨va, vc, rfl⟩ := own_slice hown
            have HOWN := hid hown
            have HAH := hid hah
            have HZ := hid hz
            have HOV := hid hov2
            obtain ⟨W1, hW1⟩ : ∃ W1, wr.alloc (.cells #[.int .i64 (l.getD k default).kind, .int .i64 (p : Int), .slice oa (l.getD k default).ops.length oc] 42) = W1 := ⟨_, rfl⟩
            have BV1 : Hid (Below wr.heap.size wr W1) := by rw [← hW1]; exact below_box wr _
            obtain ⟨xb, hxb⟩ : ∃ xb, wr.heap.size = xb := ⟨_, rfl⟩
            have x1 : W1.cell? ⟨xb, 1, none⟩ = some (.int .i64 (p : Int)) := by rw [← hW1, ← hxb]; exact new_cells wr _ 42 1
            have x2 : W1.cell? ⟨xb, 2, none⟩ = some (.slice oa (l.getD k default).ops.length oc) := by rw [← hW1, ← hxb]; exact new_cells wr _ 42 2
            have hpi : (p : Int) < 100 := by omega
            have hxs : xb ≠ sb := by omega
            have STW := hid (ST.out W1 BV1.out)
            have PCW := hid (fun V hV h0 => PCN.out V (bstep hV BV1.out) h0)
            clear ST PCN hcs hov PCk hown hah hbel hz CI hE hgo SF hp q1 q2 q3 q4 q5 q6 q7
            obtain ⟨O, hOe⟩ : ∃ O, (l.getD k default).ops = O := ⟨_, rfl⟩
            have HOE := hid hOe
            rw [hOe] at MIX SE x2 HOV d2 hW1
            clear hOe
            obtain ⟨ek, hek⟩ : ∃ ek, (l.getD k default).kind = ek := ⟨_, rfl⟩
            rw [hek] at d0 hW1 STW PCW
            clear hek
            by_cases hs : stepF l k = 0
            · have STZ : Hid (Calls Tryd.prog 20 #[.slice (some ⟨b1, o1, none⟩) l.length c1, .int .i64 (k : Int), .pointer (some ⟨sb, p * 2, none⟩)] W1 fun e w' => e = .returned (.int .i64 0) ∧ PC w' sb l (k + 1) ∧ ButB sb W1 w') := STW.out.mono fun e w' ⟨h1, V, h2, h3⟩ => by
                rw [hs] at h1
                rw [if_pos hs] at h3
                refine ⟨h1, by rw [h3]; exact PCW.out V h2 hs, ?_⟩
                rw [h3]
                by_cases hk1 : ek = 1
                · rw [if_pos hk1]
                  exact ⟨h2.os, h2.tape, h2.output, by simpa [World.setCell] using h2.size, fun b hb hn => (set_ne hn).trans (h2.block b hb)⟩
                · rw [if_neg hk1]
                  exact ⟨h2.os, h2.tape, h2.output, by simpa [World.setCell] using h2.size, fun b hb hn => (set_ne hn).trans ((set_ne hn).trans (h2.block b hb))⟩
              have SE2 : Hid (stepE l k = if mixB (opsP l k) O then 33 else 0) := by
                have := SE.out
                rw [if_pos hs] at this
                exact this
              have OLDB : Hid (∀ V, ButB sb W1 V → ∀ b, b < wr.heap.size → b ≠ sb → V.heap[b]? = wr.heap[b]?) := fun V hV b hb hn => (hV.2.2.2.2 b (Nat.lt_of_lt_of_le hb BV1.out.size) hn).trans (BV1.out.block b hb)
              clear hs STW PCW SE
              obtain ⟨M, hM⟩ : ∃ M, mixB (opsP l k) O = M := ⟨_, rfl⟩
              rw [hM] at MIX SE2
              clear hM
              cases M with
              | true =>
                have BADE : Hid (stepE l k = 33) := SE2.out
                go_wp2_with (first
                  | (go_at_call 20; refine STZ.out.mono ?_; rintro e w2 ⟨rfl, p2, b2⟩; have P2 := hid p2; have B2 := hid b2; have y2 := cell_same (b2.2.2.2.2 xb (World.block_lt_of_cell? _ _ x2) hxs) x2; clear p2 b2)
                  | (go_at_call 21; refine (MIX.out w2 (OLDB.out w2 B2.out)).mono ?_; rintro e w3 ⟨rfl, b3⟩; have B3 := hid b3; clear b3))
                go_ret2
                refine ⟨(k : Int), 33, rfl, ?_, ?_⟩
                · have hb2 := B2.out
                  refine ⟨B3.out.os.trans (hb2.1.trans (BV1.out.os.trans BR.out.os)), B3.out.tape.trans (hb2.2.1.trans (BV1.out.tape.trans BR.out.tape)), B3.out.output.trans (hb2.2.2.1.trans (BV1.out.output.trans BR.out.output)), Nat.le_trans BR.out.size (Nat.le_trans BV1.out.size (Nat.le_trans hb2.2.2.2.1 B3.out.size)), fun b hb => (B3.out.block b (by have := BR.out.size; have := BV1.out.size; have := hb2.2.2.2.1; omega)).trans ((OLDB.out w2 hb2 b (Nat.lt_of_lt_of_le hb BR.out.size) (by omega)).trans (BR.out.block b hb))⟩
                · have q := ChkR.bad HC.out k hltk HZ.out (by rw [BADE.out]; decide)
                  rw [BADE.out] at q
                  exact q
              | false =>
                have OKE : Hid (stepE l k = 0) := SE2.out
                obtain ⟨i0, hi0, hz0, hz1, hz2⟩ := info_parts Tryd.infoS
                have HI0 := hid hi0
                have HZ0 := hid hz0
                have HZ1 := hid hz1
                have HZ2 := hid hz2
                clear hi0 hz0 hz1 hz2
                have ONE : Hid (∀ u ∈ ([.slice oa O.length oc] : List Value), u.oneCell' = true) := fun u hu => by
                  rw [List.mem_singleton] at hu
                  rw [hu]
                  rfl
                go_wp2_with (first
                  | (go_at_call 20; refine STZ.out.mono ?_; rintro e w2 ⟨rfl, p2, b2⟩; have P2 := hid p2; have B2 := hid b2; have y2 := cell_same (b2.2.2.2.2 xb (World.block_lt_of_cell? _ _ x2) hxs) x2; clear p2 b2)
                  | (go_at_call 21; refine (MIX.out w2 (OLDB.out w2 B2.out)).mono ?_; rintro e w3 ⟨rfl, b3⟩; have B3 := hid b3; have y3 := cell_later b3 y2; have OWN3 : Hid (w3.ownsRow (sb + 1) 40 1 (.slice va k vc) k vals) := owns_keep HOWN.out (fun g hg => (b3.block g (by have := (HOWN.out.lt g hg).2; have := BV1.out.size; have := B2.out.2.2.2.1; omega)).trans (OLDB.out w2 B2.out g (HOWN.out.lt g hg).2 (by have := (HOWN.out.lt g hg).1; omega))); clear b3)
                  | (at_builtin; refine wpList_append_lies _ rfl _ _ 52 rfl (sb + 1) 40 i0 (.slice none 0 0) 1 24 Tryd.underlying52 HI0.out HZ0.out HZ1.out HZ2.out rfl (by decide) (.slice va k vc) k vals rfl (owns_keep OWN3.out (fun g hg => (below_box w3 _).block g (OWN3.out.lt g hg).2)) ⟨w3.heap.size, 0, none⟩ 1 1 [.slice oa O.length oc] rfl rfl (World.news_of_block (cs := #[.slice oa O.length oc]) (t := 40) (fr := (0, 0)) (heap_alloc_new w3 _)) ONE.out (by decide) (by unfold maxLen; omega) (by omega) (by have := B3.out.size; have := BV1.out.size; have := B2.out.2.2.2.1; simp; omega) _ rfl ?_; intro g cap W5 hown5 hgr5 hat5 hgl5; have O5 := hid hown5; have G5 := hid hgr5; clear hown5 hgr5 hat5 hgl5))
                go_roundg (l.length - (k + 1))
                case measure => omega
                case rel =>
                  refine ⟨k + 1, by omega, by omega, by go_num, ?_⟩
                  have hb2 := B2.out
                  have hb3 := B3.out
                  have s1 := BV1.out.size
                  have s2 := hb2.2.2.2.1
                  have s3 := hb3.size
                  have s0 := BR.out.size
                  have own : ∀ b, b ≤ sb → (Value.slice va k vc).ownBlock ≠ some b := fun b hb c => by have := (OWN3.out.lt b c).1; omega
                  have e5 : ∀ b, b < w3.heap.size → b ≤ sb → W5.heap[b]? = w3.heap[b]? := fun b hl hb => (G5.out.block b (Nat.lt_of_lt_of_le hl (below_box w3 _).size) (fun e => own b hb e.symm)).trans ((below_box w3 _).block b hl)
                  have old : ∀ b, b < w.heap.size → W5.heap[b]? = wr.heap[b]? := fun b hb => (e5 b (by omega) (by omega)).trans ((hb3.block b (by omega)).trans (OLDB.out w2 hb2 b (by omega) (by omega)))
                  have gs : w3.heap.size ≤ W5.heap.size := Nat.le_trans (below_box w3 (.cells #[.slice oa O.length oc] 40)).size G5.out.size
                  refine ⟨P2.out.same ((e5 sb (by omega) (Nat.le_refl _)).trans (hb3.block sb (by omega))), ⟨_, O5.out, ?_⟩, ⟨G5.out.os.trans (hb3.os.trans (hb2.1.trans (BV1.out.os.trans BR.out.os))), G5.out.tape.trans (hb3.tape.trans (hb2.2.1.trans (BV1.out.tape.trans BR.out.tape))), G5.out.output.trans (hb3.output.trans (hb2.2.2.1.trans (BV1.out.output.trans BR.out.output))), by omega, fun b hb => (old b hb).trans (BR.out.block b hb)⟩, by omega, fun j hj => ?_⟩
                  · rw [opsL_succ, show (l.getD k default).ops = O from HOE.out]
                    exact (HAH.out.keep (fun b hb _ => old b hb)).snoc (HOV.out.keep (fun b hb hl => (old b hb).trans (BR.out.block b hb)) (fun _ _ h => h))
                  · by_cases e : j = k
                    · rw [e]; exact OKE.out
                    · exact HZ.out j (by omega)
            · have STZ : Hid (Calls Tryd.prog 20 #[.slice (some ⟨b1, o1, none⟩) l.length c1, .int .i64 (k : Int), .pointer (some ⟨sb, p * 2, none⟩)] W1 fun e w' => e = .returned (.int .i64 (stepE l k)) ∧ Below W1.heap.size W1 w') := STW.out.mono fun e w' ⟨h1, V, h2, h3⟩ => by
                rw [if_neg hs] at h3
                have := SE.out
                rw [if_neg hs] at this
                rw [h3]
                exact ⟨by rw [h1, this], h2⟩
              have hne : stepE l k ≠ 0 := by
                have := SE.out
                rw [if_neg hs] at this
                rw [this]
                exact hs
              have FIN : Hid (ChkR l (k : Int) (stepE l k)) := .bad HC.out k hltk HZ.out hne
              clear hs STW PCW SE MIX HOWN HAH
              obtain ⟨s, hse⟩ : ∃ s, stepE l k = s := ⟨_, rfl⟩
              rw [hse] at STZ hne FIN
              have n0 : (s != (0 : Int)) = true := by simpa using hne
              have n1 : (s == (0 : Int)) = false := by simpa using hne
              clear hse hne
              go_wp2_with (go_at_call 20; refine STZ.out.mono ?_; rintro e w2 ⟨rfl, b2⟩; have B2 := hid b2; clear b2)
              go_ret2
              exact ⟨(k : Int), s, rfl, bstep B2.out (bstep BV1.out BR.out), FIN.out⟩
          · have hke : k = l.length := by omega
            subst hke
            have hltki : ¬ ((l.length : Int) < (l.length : Int)) := by omega
            have FIN : Hid (Below w.heap.size w wr ∧ ChkR l 0 0) := ⟨CI.out.2.2.1, .good HC.out CI.out.2.2.2.2⟩
            clear CI
            go_wp2_with fail
            go_ret2
            exact ⟨0, 0, rfl, FIN.out.1, FIN.out.2⟩
end Go.Proofs.YtjobdfgcgnpppaaDoor
namespace Go.Proofs.YtjobdfgcgnpppaaDoor
set_option linter.unusedVariables false
set_option linter.unusedSimpArgs false
open Go.RowKit Go.Lib Go.Maps

theorem evsEq_refl (l : List MEv) : evsEq l l = true := allEq_refl _ evEq_refl l
set_option maxHeartbeats 4000000 in
set_option maxRecDepth 100000 in
theorem checks_walk {S : Nat → Prop} (w : World) (v : Value) (l : List MEv) (h : EvsIn S w v l) (hkf : KeysFit l) (hg : w.cell? ⟨0, 0, none⟩ = some (.iface 104 (.agg #[.pointer (some ⟨1, 25, none⟩)]))) :
    Calls Tryd.prog 3 #[v] w fun e w' => e = .returned (.bool true) ∧ Below w.heap.size w w' := by
  have HE := hid h
  have HG := hid hg
  have HK := hid hkf
  have EV := hid (events_any v l w h)
  obtain ⟨va, vc, rfl, _⟩ := id h
  clear h hg hkf
  go_enter Tryd.func3, Tryd.ntmps3
  go_wp2_with (first
    | (go_at_call 9; refine EV.out.mono ?_; rintro e w1 ⟨v1, rfl, h1, b1⟩; have H1 := hid h1; have B1 := hid b1; have CK := hid (check_is w1 v1 l h1 (cell_later b1 HG.out)); clear h1 b1)
    | (go_at_call 10; refine CK.out.mono ?_; rintro e w2 ⟨tv, a, y, rfl, b2, t2⟩; have B2 := hid (bstep b2 B1.out); have H2 := hid (EvsIn.keep (T := Any) H1.out (keeps_below b2) (fun _ _ _ => trivial)); have T2 := hid t2.chk; have RC := hid (rcheck_is w2 (.slice va l.length vc) l (EvsIn.keep (T := Any) HE.out (keeps_below (bstep b2 B1.out)) (fun _ _ _ => trivial)) HK.out); clear b2 t2)
    | (go_at_call 11; refine RC.out.mono ?_; rintro e w3 ⟨a', y', rfl, b3, t3⟩; have B3 := hid (bstep b3 B2.out); have H3 := hid (EvsIn.keep (T := Any) H2.out (keeps_below b3) (fun _ _ _ => trivial)); obtain ⟨ea, ey⟩ := T2.out.one t3; subst ea; subst ey; have IS : Hid (Calls Tryd.prog 12 #[errV a y, .int .i64 a, .int .i64 y] w3 fun e w' => e = .returned (.bool true) ∧ Below w3.heap.size w3 w') := (is_is a y a y T2.out.zero w3).mono (fun e w' ⟨h1, h2⟩ => ⟨by rw [h1]; simp, h2⟩); clear b3 t3)
    | (go_at_call 12; refine IS.out.mono ?_; rintro e w4 ⟨rfl, b4⟩; have B4 := hid (bstep b4 B3.out); have SM : Hid (Calls Tryd.prog 13 #[v1, .slice va l.length vc] w4 fun e w' => e = .returned (.bool true) ∧ Below w4.heap.size w4 w') := (same_any v1 (.slice va l.length vc) l l w4 (EvsIn.keep (T := Any) H3.out (keeps_below b4) (fun _ _ _ => trivial)) (EvsIn.keep (T := Any) HE.out (keeps_below B4.out) (fun _ _ _ => trivial))).mono (fun e w' ⟨h1, h2⟩ => ⟨by rw [h1, evsEq_refl], h2⟩); clear b4)
    | (go_at_call 13; refine SM.out.mono ?_; rintro e w5 ⟨rfl, b5⟩; have B5 := hid (bstep b5 B4.out); clear b5))
  go_ret
  exact ⟨rfl, B5.out⟩
end Go.Proofs.YtjobdfgcgnpppaaDoor
namespace Go.Proofs.YtjobdfgcgnpppaaDoor
set_option linter.unusedVariables false
set_option linter.unusedSimpArgs false
open Go.RowKit Go.Lib Go.Maps

theorem u64_mod (n : Int) (m : Nat) (hm : 0 < m) (hm2 : m ≤ 4611686018427387904) : ∃ N : Nat, N < m ∧ wrap64 ((IntKind.u64.wrap n).tmod m) = N := by
  rw [IntKind.wrap_u64]
  have h0 : 0 ≤ n % 18446744073709551616 := Int.emod_nonneg _ (by decide)
  rw [Int.tmod_eq_emod_of_nonneg h0]
  have h1 := Int.emod_nonneg (n % 18446744073709551616) (show (m : Int) ≠ 0 by omega)
  have h2 := Int.emod_lt_of_pos (n % 18446744073709551616) (show (0 : Int) < m by omega)
  refine ⟨(n % 18446744073709551616 % m).toNat, by omega, ?_⟩
  unfold wrap64
  omega
theorem getD_take {α : Type} [Inhabited α] (l : List α) {N j : Nat} (h : j < N) : (l.take N).getD j default = l.getD j default := by
  simp only [List.getD]
  rw [List.getElem?_take_of_lt h]
theorem evs_take {S : Nat → Prop} {w : World} {ao : Option Addr} {n c : Nat} {l : List MEv} (h : EvsIn S w (.slice ao n c) l) (N : Nat) (hN : N ≤ l.length) : EvsIn S w (.slice ao N c) (l.take N) := by
  obtain ⟨ao', c', hv, hl, hc⟩ := h
  injection hv with e1 e2 e3
  subst e1 e2 e3
  have el : (l.take N).length = N := by rw [List.length_take]; omega
  refine ⟨ao, c, by rw [el], by omega, fun h0 => ?_⟩
  obtain ⟨b, off, ha, hS, hj⟩ := hc (by omega)
  refine ⟨b, off, ha, hS, fun j hjl => ?_⟩
  obtain ⟨cs, h1, h2, h3⟩ := hj j (by omega)
  refine ⟨cs, h1, ?_, h3⟩
  rw [getD_take l (by omega)]
  exact h2
theorem opnP_congr {l l' : List MEv} (p : Int) : ∀ k, (∀ j, j < k → l.getD j default = l'.getD j default) → opnP l k p = opnP l' k p
  | 0, _ => rfl
  | k + 1, h => by
    unfold opnP
    rw [h k (by omega), opnP_congr p k (fun j hj => h j (by omega))]
theorem goneP_congr {l l' : List MEv} (p : Int) : ∀ k, (∀ j, j < k → l.getD j default = l'.getD j default) → goneP l k p = goneP l' k p
  | 0, _ => rfl
  | k + 1, h => by
    unfold goneP
    rw [h k (by omega), goneP_congr p k (fun j hj => h j (by omega))]
theorem opsP_congr {l l' : List MEv} : ∀ k, (∀ j, j < k → l.getD j default = l'.getD j default) → opsP l k = opsP l' k
  | 0, _ => rfl
  | k + 1, h => by
    unfold opsP
    rw [h k (by omega), opsP_congr k (fun j hj => h j (by omega))]
theorem stepE_congr {l l' : List MEv} (k : Nat) (h : ∀ j, j < k + 1 → l.getD j default = l'.getD j default) : stepE l k = stepE l' k := by
  unfold stepE
  rw [h k (by omega), opnP_congr _ k (fun j hj => h j (by omega)), goneP_congr _ k (fun j hj => h j (by omega)), opsP_congr k (fun j hj => h j (by omega))]
  cases hq : opnP l' k (l'.getD k default).proc with
  | none => rfl
  | some i =>
    have hi := opnP_at hq
    simp only
    rw [h i (by omega)]
theorem chk_take {l : List MEv} {N : Nat} (hN : N ≤ l.length) (h : ChkR l 0 0) {a y : Int} (h' : ChkR (l.take N) a y) : y = 0 := by
  rcases h with ⟨_, _, c⟩ | ⟨_, k, _, _, hs, _, c⟩ | ⟨hc, hz, _, _⟩
  · cases c
  · exact absurd c.symm hs
  · have el : (l.take N).length = N := by rw [List.length_take]; omega
    have hcan : canM (l.take N) = true := by
      unfold canM at hc ⊢
      rw [Bool.and_eq_true, decide_eq_true_eq, List.all_eq_true] at hc ⊢
      exact ⟨by omega, fun x hx => hc.2 x (List.mem_of_mem_take hx)⟩
    have hz2 : ∀ j, j < (l.take N).length → stepE (l.take N) j = 0 := fun j hj => by
      rw [el] at hj
      rw [stepE_congr (l' := l) j (fun i hi => getD_take l (by omega))]
      exact hz j (by omega)
    exact ((ChkR.good hcan hz2).one h').2.symm
set_option maxHeartbeats 4000000 in
set_option maxRecDepth 100000 in
theorem begins_walk {S : Nat → Prop} (w : World) (va : Option Addr) (len cap : Nat) (n0 : Int) (l : List MEv) (h : EvsIn S w (.slice va len cap) l) (hkf : KeysFit l) (hg : w.cell? ⟨0, 0, none⟩ = some (.iface 104 (.agg #[.pointer (some ⟨1, 25, none⟩)]))) (hcap : len ≤ cap) :
    Calls Tryd.prog 6 #[.slice va len cap, .int .i64 n0] w fun e w' => e = .returned (.bool true) ∧ Below w.heap.size w w' := by
  have hlen : len = l.length := by
    obtain ⟨_, _, hv, _⟩ := h
    injection hv
  subst hlen
  have hby : l.length * 40 ≤ 140737488355328 := by
    obtain ⟨_, _, _, hl, _⟩ := h
    exact hl
  have HE := hid h
  have HK := hid hkf
  have HG := hid hg
  have CK := hid (check_is w (.slice va l.length cap) l h hg)
  have hli : (l.length : Int) ≤ 9223372036854775806 := by omega
  have hci : (l.length : Int) ≤ cap := by omega
  obtain ⟨N, hN, hD0⟩ := u64_mod n0 (l.length + 1) (by omega) (by omega)
  have hD : wrap64 ((IntKind.u64.wrap n0).tmod ((l.length : Int) + 1)) = (N : Int) := by
    have e : ((l.length + 1 : Nat) : Int) = (l.length : Int) + 1 := by omega
    rw [e] at hD0
    exact hD0
  have hNc : (N : Int) ≤ cap := by omega
  have hNl : (N : Int) ≤ l.length := by omega
  have hNl2 : N ≤ l.length := by omega
  have CT := hid (fun (w' : World) (hb : Below w.heap.size w w') => check_is w' (.slice va N cap) (l.take N) (evs_take (EvsIn.keep (T := Any) h (keeps_below hb) (fun _ _ _ => trivial)) N hNl2) (cell_later hb hg))
  clear hD0 h hkf hg
  go_enter Tryd.func6, Tryd.ntmps6
  go_wp2_with fail
  go_at_call 10
  refine CK.out.mono ?_
  rintro e w2 ⟨tv, a, y, rfl, b2, t2⟩
  have B2 := hid b2
  have T2 := hid t2.chk
  have RC := hid (rcheck_is w2 (.slice va l.length cap) l (EvsIn.keep (T := Any) HE.out (keeps_below b2) (fun _ _ _ => trivial)) HK.out)
  clear b2 t2
  go_wp2_with (go_at_call 11; refine RC.out.mono ?_; rintro e w3 ⟨a', y', rfl, b3, t3⟩; have B3 := hid (bstep b3 B2.out); obtain ⟨ea, ey⟩ := T2.out.one t3; subst ea; subst ey; clear b3 t3)
  go_at_call 10
  refine (CT.out w3 B3.out).mono ?_
  rintro e w4 ⟨tv4, a4, y4, rfl, b4, t4⟩
  have B4 := hid (bstep b4 B3.out)
  have T4 := hid t4.chk
  have IS : Hid (Calls Tryd.prog 12 #[errV a y, .int .i64 a, .int .i64 y] w4 fun e w' => e = .returned (.bool true) ∧ Below w4.heap.size w4 w') := (is_is a y a y T2.out.zero w4).mono (fun e w' ⟨h1, h2⟩ => ⟨by rw [h1]; simp, h2⟩)
  clear b4 t4
  by_cases hy : y = 0
  · have ha : a = 0 := T2.out.zero hy
    have hy4 : y4 = 0 := by
      have q := T2.out
      rw [hy, ha] at q
      exact chk_take hNl2 q T4.out
    have ev4 : errV a4 y4 = .nilIface := by unfold errV; rw [if_pos hy4]
    have q1 : (y != (0 : Int)) = false := by simpa using hy
    have q2 : (y == (0 : Int)) = true := by simpa using hy
    clear hy hy4 ha
    rw [ev4]
    go_wp2_with (go_at_call 12; refine IS.out.mono ?_; rintro e w5 ⟨rfl, b5⟩; have B5 := hid (bstep b5 B4.out); clear b5)
    go_ret
    exact ⟨rfl, B5.out⟩
  · have q1 : (y != (0 : Int)) = true := by simpa using hy
    have q2 : (y == (0 : Int)) = false := by simpa using hy
    clear hy
    go_wp2_with (go_at_call 12; refine IS.out.mono ?_; rintro e w5 ⟨rfl, b5⟩; have B5 := hid (bstep b5 B4.out); clear b5)
    go_ret
    exact ⟨rfl, B5.out⟩
end Go.Proofs.YtjobdfgcgnpppaaDoor
namespace Go.Proofs.YtjobdfgcgnpppaaDoor
set_option linter.unusedVariables false
set_option linter.unusedSimpArgs false
open Go.RowKit Go.Lib

set_option maxHeartbeats 4000000 in
set_option maxRecDepth 100000 in
theorem events_out {S : Nat → Prop} (a1 : Option Addr) (c1 n : Nat) (xs : List MEv) (w : World) (hx : xs.length = n) (hbytes : n * 40 ≤ 140737488355328)
    (h1 : RowCells 3 (EvRow S w) w a1 xs n) :
    Calls Tryd.prog 9 #[.slice a1 n c1] w fun e w' => ∃ v' rows, e = .returned v' ∧ OutInv 42 3 EvRow w.heap.size w' v' n rows xs ∧ Below w.heap.size w w' := by
  obtain ⟨i0, hi, hz0, hz1, hz2⟩ := info_parts Tryd.infoEv
  have HX : Hid (xs.length = n) := hx
  clear hx
  go_enter Tryd.func9, Tryd.ntmps9
  go_wp2
  go_loopg [3, 5, 8] n (fun g v _ i wr => ∃ (k : Nat) (rows : List (List Value)), k ≤ n ∧ n - k ≤ g ∧ i = .int .i64 k ∧ Aside (Below w.heap.size w wr) ∧ Aside (OutInv 42 3 EvRow w.heap.size wr v k rows (xs.take k)))
  case atStart => exact ⟨0, [], Nat.zero_le _, by omega, rfl, Below.refl _ _, OutInv.nil _ _ _ _ _⟩
  case round =>
    obtain ⟨k, rows, hk, hg, rfl, BW, I⟩ := hrel
    by_cases hlt : k < n
    · have hlti : (k : Int) < (n : Int) := by omega
      obtain ⟨b1, o1, cs1, rfl, hb1, _, ⟨l1, rfl, i1⟩, k1⟩ := h1 k hlt
      clear h1
      have d0 : wr.cell? ⟨b1, o1 + k * 3, none⟩ = _ := (BW.out.cell (p := ⟨b1, o1 + k * 3, none⟩) hb1).trans (k1 0 _ rfl)
      have d1 := (BW.out.cell (p := ⟨b1, o1 + k * 3 + 1, none⟩) hb1).trans (k1 1 _ rfl)
      have d2 := (BW.out.cell (p := ⟨b1, o1 + k * 3 + 2, none⟩) hb1).trans (k1 2 _ rfl)
      clear k1
      have hsz := BW.out.size
      have j1 := i1.keep (keeps_below BW.out) (fun _ _ h => h)
      clear i1
      have HT : Hid (xs.take (k + 1) = xs.take k ++ [xs.getD k default]) := by
        show xs.take (k + 1) = _
        rw [List.take_succ_eq_append_getElem (by rw [HX.out]; exact hlt)]
        simp [List.getD, List.getElem?_eq_getElem (show k < xs.length by rw [HX.out]; exact hlt)]
      generalize xs.getD k default = X at *
      obtain ⟨xk, xp, xl⟩ := X
      simp only [MEv.kind, MEv.proc, MEv.ops] at *
      obtain ⟨al1, cl1, rfl, -⟩ := id j1
      have H : Hid (∀ W, Below (wr.heap.size + 1) (wr.alloc (.cells #[.int .i64 xk, .int .i64 xp, .slice al1 xl.length cl1] 42)) W → Calls Tryd.prog 18 #[.slice al1 xl.length cl1] W fun e w' => ∃ al cl, e = .returned (.slice al xl.length cl) ∧ OpsIn (fun b => wr.heap.size + 1 ≤ b) w' (.slice al xl.length cl) xl ∧ Below (wr.heap.size + 1) (wr.alloc (.cells #[.int .i64 xk, .int .i64 xp, .slice al1 xl.length cl1] 42)) w') := fun W hW => by
        have hsW : wr.heap.size + 1 ≤ W.heap.size := by have := hW.size; simpa using this
        have B0 : Below wr.heap.size wr W := ((Below.refl _ wr).alloc (Nat.le_refl _) _).trans (hW.mono (by omega))
        refine (ops_any _ xl W (j1.keep (keeps_below B0) (fun _ _ h => h))).mono fun e w' ⟨v', he, ho, hb⟩ => ?_
        obtain ⟨al, cl, hv, -⟩ := id ho
        subst hv
        exact ⟨al, cl, he, ho.keep (fun _ _ _ => rfl) (fun b _ hb => by omega), hW.trans (hb.mono hsW)⟩
      clear j1
      go_wp2_with fail
      clear d0 d1 d2
      go_region_held3 (fun w' => w'.cell? ⟨wr.heap.size, 0, none⟩ = some (.int .i64 xk) ∧ w'.cell? ⟨wr.heap.size, 1, none⟩ = some (.int .i64 xp) ∧ w'.cell? ⟨wr.heap.size, 2, none⟩ = some (.slice al1 xl.length cl1))
        (first
          | go_keep
          | exact ⟨q0, q1, q2⟩
          | exact ⟨fc0 _, fc1 _, fc2 _⟩
          | exact ⟨(hgrow.cell_far _ (by simp; omega) hfar).trans (fc0 _), (hgrow.cell_far _ (by simp; omega) hfar).trans (fc1 _), (hgrow.cell_far _ (by simp; omega) hfar).trans (fc2 _)⟩)
        ((first
          | (go_at_call 18
             refine (H.out _ (by repeat (first | exact Below.refl _ _ | apply Below.drew))).mono ?_
             rintro e w1 ⟨al, cl, rfl, hv1, hb⟩
             have hs1 : wr.heap.size + 1 ≤ w1.heap.size := by have := hb.size; simpa using this
             have q0 : w1.cell? ⟨wr.heap.size, 0, none⟩ = some (.int .i64 xk) := (hb.cell (p := ⟨wr.heap.size, 0, none⟩) (by simp)).trans (by simp)
             have q1 : w1.cell? ⟨wr.heap.size, 1, none⟩ = some (.int .i64 xp) := (hb.cell (p := ⟨wr.heap.size, 1, none⟩) (by simp)).trans (by simp)
             have q2 : w1.cell? ⟨wr.heap.size, 2, none⟩ = some (.slice al1 xl.length cl1) := (hb.cell (p := ⟨wr.heap.size, 2, none⟩) (by simp)).trans (by simp)
             have fc0 : ∀ o, (w1.alloc o).cell? ⟨wr.heap.size, 0, none⟩ = some (.int .i64 xk) := fun o => Lib.cell?_alloc_some _ q0
             have fc1 : ∀ o, (w1.alloc o).cell? ⟨wr.heap.size, 1, none⟩ = some (.int .i64 xp) := fun o => Lib.cell?_alloc_some _ q1
             have fc2 : ∀ o, (w1.alloc o).cell? ⟨wr.heap.size, 2, none⟩ = some (.slice al1 xl.length cl1) := fun o => Lib.cell?_alloc_some _ q2
             have HV := hid hv1
             have HB1 : Hid (Below wr.heap.size wr w1) := ((Below.refl _ wr).alloc (Nat.le_refl _) _).trans (hb.mono (by omega))
             have hfar : some wr.heap.size ≠ u3.ownBlock := fun e => by have := (I.out.own.lt _ e.symm).2; omega
             clear hv1 hb)
          | (refine step_append_lies _ (by rfl) _ _ 22 (by rfl) w.heap.size 42 i0 _ 3 40 Tryd.underlying22 hi hz0 hz1 hz2 rfl (by decide) u3 k rows.flatten (by rfl) (I.out.own3 (HB1.out.alloc (by omega) _)) ⟨w1.heap.size, 0, none⟩ 1 1 [.int .i64 xk, .int .i64 xp, .slice al xl.length cl] (by rfl) (by rfl) (World.news_of_block (cs := #[.int .i64 xk, .int .i64 xp, .slice al xl.length cl]) (t := 42) (fr := (0, 0)) (heap_alloc_new w1 _)) (by simp [Value.oneCell']) (by decide) (by unfold maxLen; omega) (by omega) (by simp; omega) (w1.heap.size + 1) (by simp) ?_
             intro g cap w4 hown4 hgrow hat hglt)))
      have hs1' : wr.heap.size + 1 ≤ w1.heap.size := hs1
      have B3 : Below wr.heap.size wr (w1.alloc (.cells #[.int .i64 xk, .int .i64 xp, .slice al xl.length cl] 42)) := HB1.out.alloc (by omega) _
      have hrow : EvRow (fun b => wr.heap.size < b) (w1.alloc (.cells #[.int .i64 xk, .int .i64 xp, .slice al xl.length cl] 42)) [.int .i64 xk, .int .i64 xp, .slice al xl.length cl] ⟨xk, xp, xl⟩ :=
        ⟨_, rfl, HV.out.keep (fun b _ hbl => Below.heap_alloc _ _ _ hbl) (fun b _ hb => by omega)⟩
      have hbw4 : Below w.heap.size w w4 := BW.out.trans ((B3.mono hsz).grown hgrow (by simp; omega) (fun x hx => (I.out.own.lt x hx).1))
      have I4 := hid (OutInv.step evRow_keep I.out hsz B3 hrow rfl hown4 hgrow (by simpa using hat))
      have HBW4 := hid hbw4
      clear hown4 hgrow hat B3 hrow hbw4 q0 q1 q2 fc0 fc1 fc2 hfar
      go_wp2_with fail
      go_roundg (n - (k + 1))
      case measure => omega
      case rel => exact ⟨k + 1, rows ++ [_], by omega, by omega, by go_num, HBW4.out, (by show OutInv _ _ _ _ _ _ _ _ _; rw [HT.out]; exact I4.out)⟩
    · go_wp2
      go_ret
      have hkn : k = n := by omega
      subst hkn
      rw [← HX.out, List.take_length, HX.out] at I
      exact ⟨_, rows, rfl, I.out, BW.out⟩
/-- One cell of a row's element is written. -/
theorem OutInv.cellAt {α : Type} [Inhabited α] {e size : Nat} {R : (Nat → Prop) → World → List Value → α → Prop} {B n g c T i : Nat} {w : World} {rows : List (List Value)} {l : List α} (hkeep : ∀ (S T : Nat → Prop) w w' cs x, R S w cs x → KeepsIn S w w' → (∀ b, b < w.heap.size → S b → T b) → R T w' cs x)
    (h : OutInv e size R B w (.slice (some ⟨g, 0, none⟩) n c) n rows l) (hT : T < n) (hi : i < size) (u : Value) (x' : α) (hR : ∀ S w, R S w (rows.getD T []) (l.getD T default) → R S w ((rows.getD T []).set i u) x') :
    OutInv e size R B (w.setCell ⟨g, T * size + i, none⟩ u) (.slice (some ⟨g, 0, none⟩) n c) n (rows.set T ((rows.getD T []).set i u)) (l.set T x') := by
  have hTr : T < rows.length := by rw [h.rn]; exact hT
  have blk : ∀ x, x ≠ g → (w.setCell ⟨g, T * size + i, none⟩ u).heap[x]? = w.heap[x]? := fun x hx => set_ne hx
  have o1 := own_put h.own (T * size + i) (by
    have := Nat.mul_le_mul_right size (show T + 1 ≤ n by omega)
    rw [Nat.add_mul] at this
    omega) u
  rw [flatten_put size rows T i _ h.sizes hTr hi] at o1
  have hmem : rows.getD T [] ∈ rows := by simp [List.getD, List.getElem?_eq_getElem hTr]
  refine ⟨by rw [List.length_set]; exact h.rn, by rw [List.length_set]; exact h.ln, o1, set_sizes h.sizes (by rw [List.length_set]; exact h.sizes _ hmem), fun j hj => ?_⟩
  by_cases e : T = j
  · subst e
    rw [getD_set_row _ _ _ hTr, getD_set_new (by rw [h.ln]; exact hT)]
    exact hkeep _ _ _ _ _ _ (hR _ _ (h.each T hj)) (fun x hx _ => blk x (fun c => hx.2 (by rw [c]; rfl))) (fun _ _ hx => hx)
  · have e1 : (rows.set T ((rows.getD T []).set i u)).getD j [] = rows.getD j [] := by simp [List.getD, List.getElem?_set_ne e]
    rw [e1, getD_set_old e]
    exact hkeep _ _ _ _ _ _ (h.each j hj) (fun x hx _ => blk x (fun c => hx.2 (by rw [c]; rfl))) (fun _ _ hx => hx)
/-- A process named otherwise. -/
def renP (b : Nat) (p : Int) : Int := if 0 ≤ p ∧ p ≤ 99 then (p + 1 + (b : Int)) % 100 else p
def renE (b : Nat) (e : MEv) : MEv := (e.kind, renP b e.proc, e.ops)
def renT (b : Nat) (t : MTx) : MTx := (renP b t.proc, t.state, t.since, t.till, t.ops)
theorem renP_inj {b : Nat} {p q : Int} (hp : 0 ≤ p ∧ p ≤ 99) (hq : 0 ≤ q ∧ q ≤ 99) (h : renP b p = renP b q) : p = q := by
  unfold renP at h
  rw [if_pos hp, if_pos hq] at h
  omega
theorem renP_in {b : Nat} {p : Int} : (0 ≤ renP b p ∧ renP b p ≤ 99) ↔ (0 ≤ p ∧ p ≤ 99) := by
  unfold renP
  by_cases h : 0 ≤ p ∧ p ≤ 99
  · rw [if_pos h]
    constructor
    · intro _; exact h
    · intro _; omega
  · rw [if_neg h]
theorem getD_map_ren (b : Nat) (l : List MEv) {k : Nat} (hk : k < l.length) : (l.map (renE b)).getD k default = renE b (l.getD k default) := by
  simp [List.getD, hk]
theorem can_ren (b : Nat) (l : List MEv) : canM (l.map (renE b)) = canM l := by
  unfold canM
  rw [List.length_map, List.all_map]
  congr 2
  funext e
  show evOk (renE b e) = evOk e
  unfold evOk
  have : evHead (renE b e) ↔ evHead e := by
    unfold evHead
    have q := @renP_in b e.proc
    constructor
    · rintro ⟨a1, a2, a3, a4, a5, a6⟩
      have := q.1 ⟨a3, a4⟩
      exact ⟨a1, a2, this.1, this.2, a5, a6⟩
    · rintro ⟨a1, a2, a3, a4, a5, a6⟩
      have := q.2 ⟨a3, a4⟩
      exact ⟨a1, a2, this.1, this.2, a5, a6⟩
  rw [show decide (evHead (renE b e)) = decide (evHead e) from by simp only [this]]
  rfl
theorem opn_ren {b : Nat} {l : List MEv} (hin : ∀ j, j < l.length → 0 ≤ (l.getD j default).proc ∧ (l.getD j default).proc ≤ 99) {p : Int} (hp : 0 ≤ p ∧ p ≤ 99) : ∀ k, k ≤ l.length → opnP (l.map (renE b)) k (renP b p) = opnP l k p
  | 0, _ => rfl
  | k + 1, hk => by
    have ih := opn_ren (b := b) hin hp k (by omega)
    unfold opnP
    rw [getD_map_ren b l (by omega), ih]
    show (if renP b (l.getD k default).proc = renP b p then (if (l.getD k default).kind = 1 then some k else none) else _) = _
    by_cases e : (l.getD k default).proc = p
    · rw [if_pos (by rw [e]), if_pos e]
    · rw [if_neg (fun c => e (renP_inj (hin k (by omega)) hp c)), if_neg e]
theorem gone_ren {b : Nat} {l : List MEv} (hin : ∀ j, j < l.length → 0 ≤ (l.getD j default).proc ∧ (l.getD j default).proc ≤ 99) {p : Int} (hp : 0 ≤ p ∧ p ≤ 99) : ∀ k, k ≤ l.length → goneP (l.map (renE b)) k (renP b p) = goneP l k p
  | 0, _ => rfl
  | k + 1, hk => by
    have ih := gone_ren (b := b) hin hp k (by omega)
    unfold goneP
    rw [getD_map_ren b l (by omega), ih]
    show (if renP b (l.getD k default).proc = renP b p then (l.getD k default).kind == 4 else _) = _
    by_cases e : (l.getD k default).proc = p
    · rw [if_pos (by rw [e]), if_pos e]
    · rw [if_neg (fun c => e (renP_inj (hin k (by omega)) hp c)), if_neg e]
theorem ops_ren {b : Nat} {l : List MEv} : ∀ k, k ≤ l.length → opsP (l.map (renE b)) k = opsP l k
  | 0, _ => rfl
  | k + 1, hk => by
    unfold opsP
    rw [getD_map_ren b l (by omega), ops_ren k (by omega)]
    rfl
theorem inv_ren {b : Nat} {l : List MEv} : ∀ k, k ≤ l.length → invN (l.map (renE b)) k = invN l k
  | 0, _ => rfl
  | k + 1, hk => by
    rw [invN_succ, invN_succ, getD_map_ren b l (by omega), inv_ren k (by omega)]
    rfl
theorem step_ren {b : Nat} {l : List MEv} (hin : ∀ j, j < l.length → 0 ≤ (l.getD j default).proc ∧ (l.getD j default).proc ≤ 99) {k : Nat} (hk : k < l.length) : stepE (l.map (renE b)) k = stepE l k := by
  unfold stepE
  rw [getD_map_ren b l hk]
  have e1 : (renE b (l.getD k default)).proc = renP b (l.getD k default).proc := rfl
  have e2 : (renE b (l.getD k default)).kind = (l.getD k default).kind := rfl
  have e3 : (renE b (l.getD k default)).ops = (l.getD k default).ops := rfl
  have e4 : fitB (renE b (l.getD k default)) = fitB (l.getD k default) := rfl
  rw [e1, e2, e3, e4, opn_ren hin (hin k hk) k (by omega), gone_ren hin (hin k hk) k (by omega), ops_ren k (by omega)]
  cases hq : opnP l k (l.getD k default).proc with
  | none => rfl
  | some i =>
    have hi := opnP_at hq
    simp only
    rw [getD_map_ren b l (by omega)]
    rfl
theorem tx_ren {b : Nat} {l : List MEv} (hin : ∀ j, j < l.length → 0 ≤ (l.getD j default).proc ∧ (l.getD j default).proc ≤ 99) : ∀ k, k ≤ l.length → txL (l.map (renE b)) k = (txL l k).map (renT b)
  | 0, _ => rfl
  | k + 1, hk => by
    have ih := tx_ren (b := b) hin k (by omega)
    unfold txL
    rw [getD_map_ren b l (by omega), ih]
    have e1 : (renE b (l.getD k default)).proc = renP b (l.getD k default).proc := rfl
    have e2 : (renE b (l.getD k default)).kind = (l.getD k default).kind := rfl
    have e3 : (renE b (l.getD k default)).ops = (l.getD k default).ops := rfl
    rw [e1, e2, e3, opn_ren hin (hin k (by omega)) k (by omega)]
    by_cases h1 : (l.getD k default).kind = 1
    · rw [if_pos h1, if_pos h1, List.map_append]
      rfl
    · rw [if_neg h1, if_neg h1]
      cases hq : opnP l k (l.getD k default).proc with
      | none => rfl
      | some i =>
        have hi := opnP_at hq
        simp only
        rw [inv_ren i (by omega), List.map_set]
        rfl
/-- The first k processes are named otherwise. -/
def renL (b : Nat) (l : List MEv) : Nat → List MEv
  | 0 => l
  | k + 1 => (renL b l k).set k (renE b (l.getD k default))
theorem renL_len (b : Nat) (l : List MEv) : ∀ k, (renL b l k).length = l.length
  | 0 => rfl
  | k + 1 => by
    unfold renL
    rw [List.length_set, renL_len b l k]
theorem renL_at (b : Nat) (l : List MEv) : ∀ k j, j < l.length → (renL b l k).getD j default = if j < k then renE b (l.getD j default) else l.getD j default
  | 0, j, _ => by rw [if_neg (Nat.not_lt_zero _)]; rfl
  | k + 1, j, hj => by
    unfold renL
    by_cases e : k = j
    · subst e
      rw [getD_set_new (by rw [renL_len]; exact hj), if_pos (by omega)]
    · rw [getD_set_old e, renL_at b l k j hj]
      by_cases c : j < k
      · rw [if_pos c, if_pos (by omega)]
      · rw [if_neg c, if_neg (by omega)]
theorem renL_all (b : Nat) (l : List MEv) : renL b l l.length = l.map (renE b) := by
  apply List.ext_getElem
  · rw [renL_len, List.length_map]
  · intro j h1 h2
    rw [renL_len] at h1
    have q := renL_at b l l.length j h1
    rw [if_pos h1] at q
    have r := getD_map_ren b l h1
    rw [List.getD, List.getElem?_eq_getElem (by rw [renL_len]; exact h1)] at q
    rw [List.getD, List.getElem?_eq_getElem (by rw [List.length_map]; exact h1)] at r
    exact q.trans r.symm
end Go.Proofs.YtjobdfgcgnpppaaDoor
