/-
  The document's Check.
  PairChecks, PairGone.
  PairOne.
-/
import Derived.Test.YtjobdfgcgnpppaaDoorJ10
import Derived.Test.YtjobdfgcgnpppaaDoorJ9
import Derived.Test.YtjobdfgcgnpppaaDoorJ4
import Derived.Laws.MakeOwn
import Derived.Test.YtjobdfgcgnpppaaDoorJ2
namespace Go.Proofs.YtjobdfgcgnpppaaDoor
set_option linter.unusedVariables false
set_option linter.unusedSimpArgs false
open Go.RowKit Go.Lib Go.Maps

theorem Tryd.infoPr : (Tryd.prog.info? 51).map (fun i => (i.zero, i.size, i.bytes)) = some (some (.agg #[.bool false, .int .i64 0]), 2, 16) := by kernel_rfl
theorem ps_at (q : Nat) (hq : q < 100) : (madeCells #[Value.bool false, .int .i64 0] 200)[q * 2]? = some (.bool false) ∧ (madeCells #[Value.bool false, .int .i64 0] 200)[q * 2 + 1]? = some (.int .i64 0) := by
  have h : (List.range 100).all (fun q => (match (madeCells #[Value.bool false, .int .i64 0] 200)[q * 2]? with | some (.bool false) => true | _ => false) && (match (madeCells #[Value.bool false, .int .i64 0] 200)[q * 2 + 1]? with | some (.int .i64 0) => true | _ => false)) = true := by kernel_rfl
  rw [List.all_eq_true] at h
  have h1 := h q (List.mem_range.2 hq)
  rw [Bool.and_eq_true] at h1
  obtain ⟨h2, h3⟩ := h1
  constructor
  · split at h2
    · assumption
    · cases h2
  · split at h3
    · assumption
    · cases h3
theorem mkPs (W : World) : (Instr.makeSlice 49 (.int .i64 100) (.int .i64 100)).run Tryd.prog W = .ok (.slice (some ⟨W.heap.size, 0, none⟩) 100 100) (W.alloc (.cells (madeCells #[Value.bool false, .int .i64 0] 200) 51)) := by
  obtain ⟨i0, hi, hz0, hz1, hz2⟩ := info_parts Tryd.infoPr
  have := run_make (P := Tryd.prog) (w := W) 49 51 i0 _ Tryd.underlying49 hi hz0 .i64 .i64 100 100 (by decide) (by decide) (by rw [hz2]; decide) (by decide)
  rw [this, hz1]
  rfl
/-- The place of an open invocation, or -1. -/
def opI (l : List MEv) (k : Nat) (p : Int) : Int := match opnP l k p with
  | none => -1
  | some i => (i : Int)
/-- The processes, as the document holds them. -/
def PC (w : World) (sb : Nat) (l : List MEv) (k : Nat) : Prop := (∀ q : Nat, q < 100 → w.cell? ⟨sb, q * 2, none⟩ = some (.bool (goneP l k (q : Int))) ∧ w.cell? ⟨sb, q * 2 + 1, none⟩ = some (.int .i64 (opI l k (q : Int)))) ∧ ∀ o, w.frozen? ⟨sb, o, none⟩ = false
theorem PC.same {w w' : World} {sb : Nat} {l : List MEv} {k : Nat} (h : PC w sb l k) (e : w'.heap[sb]? = w.heap[sb]?) : PC w' sb l k := ⟨fun q hq => ⟨cell_same e (h.1 q hq).1, cell_same e (h.1 q hq).2⟩, fun o => (frozen_same e o).trans (h.2 o)⟩
theorem PC.put {V : World} {sb : Nat} {l : List MEv} {k p : Nat} {ek : Int} {O : List MOp} (h : PC V sb l k) (hE : l.getD k default = (ek, (p : Int), O)) (hp : p < 100) (hg : ek = 1 → goneP l k (p : Int) = false) :
    PC (if ek = 1 then V.setCell ⟨sb, p * 2 + 1, none⟩ (.int .i64 (k : Int)) else (V.setCell ⟨sb, p * 2 + 1, none⟩ (.int .i64 (-1))).setCell ⟨sb, p * 2, none⟩ (.bool (ek == 4))) sb l (k + 1) := by
  have eg : ∀ q : Int, goneP l (k + 1) q = if (p : Int) = q then ek == 4 else goneP l k q := fun q => by
    show (if (l.getD k default).proc = q then (l.getD k default).kind == 4 else goneP l k q) = _
    rw [hE]
  have e0 : ∀ q : Int, opnP l (k + 1) q = if (p : Int) = q then (if ek = 1 then some k else none) else opnP l k q := fun q => by
    show (if (l.getD k default).proc = q then (if (l.getD k default).kind = 1 then some k else none) else opnP l k q) = _
    rw [hE]
  have eo : ∀ q : Int, opI l (k + 1) q = if (p : Int) = q then (if ek = 1 then (k : Int) else -1) else opI l k q := fun q => by
    unfold opI
    rw [e0]
    by_cases e : (p : Int) = q
    · rw [if_pos e, if_pos e]
      by_cases e1 : ek = 1
      · rw [if_pos e1, if_pos e1]
      · rw [if_neg e1, if_neg e1]
    · rw [if_neg e, if_neg e]
  have oth : ∀ (V : World) (o o' : Nat) (u u' : Value), o ≠ o' → V.cell? ⟨sb, o, none⟩ = some u → (V.setCell ⟨sb, o', none⟩ u').cell? ⟨sb, o, none⟩ = some u := fun V o o' u u' hne hu => (World.cell?_setCell_other _ _ _ _ (fun c => hne (by have := congrArg Addr.off c; simpa using this.symm))).trans hu
  by_cases h1 : ek = 1
  · rw [if_pos h1]
    refine ⟨fun q hq => ?_, fun o => by rw [World.frozen?_setCell]; exact h.2 o⟩
    obtain ⟨a1, a2⟩ := h.1 q hq
    rw [eg, eo, if_pos h1]
    by_cases e : p = q
    · subst e
      rw [if_pos rfl, if_pos rfl]
      refine ⟨(oth _ _ _ _ _ (by omega) a1).trans ?_, World.cell?_setCell_same _ _ _ a2⟩
      rw [hg h1, h1]
      rfl
    · rw [if_neg (by omega), if_neg (by omega)]
      exact ⟨oth _ _ _ _ _ (by omega) a1, oth _ _ _ _ _ (by omega) a2⟩
  · rw [if_neg h1]
    refine ⟨fun q hq => ?_, fun o => by rw [World.frozen?_setCell, World.frozen?_setCell]; exact h.2 o⟩
    obtain ⟨a1, a2⟩ := h.1 q hq
    rw [eg, eo, if_neg h1]
    by_cases e : p = q
    · subst e
      rw [if_pos rfl, if_pos rfl]
      exact ⟨World.cell?_setCell_same _ _ _ (oth _ _ _ _ _ (by omega) a1), oth _ _ _ _ _ (by omega) (World.cell?_setCell_same _ _ _ a2)⟩
    · rw [if_neg (by omega), if_neg (by omega)]
      exact ⟨oth _ _ _ _ _ (by omega) (oth _ _ _ _ _ (by omega) a1), oth _ _ _ _ _ (by omega) (oth _ _ _ _ _ (by omega) a2)⟩
/-- What is wrong with event k, the keys aside. -/
def stepF (l : List MEv) (k : Nat) : Int := rsR ((l.getD k default).kind == 1) (opnP l k (l.getD k default).proc).isSome (goneP l k (l.getD k default).proc) (askedO l k (l.getD k default).proc (l.getD k default).ops) (fitB (l.getD k default))
theorem rs_core (inv opn gn ask fit mix : Bool) : (if inv then (if opn || gn then (30 : Int) else if !fit then 32 else if mix then 33 else 0) else (if !opn then 31 else if !ask then 32 else if !fit then 32 else if mix then 33 else 0)) = if rsR inv opn gn ask fit = 0 then (if mix then 33 else 0) else rsR inv opn gn ask fit := by
  cases inv <;> cases opn <;> cases gn <;> cases ask <;> cases fit <;> cases mix <;> rfl
theorem step_rs (l : List MEv) (k : Nat) : stepE l k = if stepF l k = 0 then (if mixB (opsP l k) (l.getD k default).ops then 33 else 0) else stepF l k := by
  unfold stepF
  rw [← rs_core]
  unfold stepE askedO
  generalize l.getD k default = E
  obtain ⟨ek, p, O⟩ := E
  by_cases h1 : ek = 1
  · subst h1
    rfl
  · have h1b : (ek == 1) = false := by simpa using h1
    simp only [MEv.kind, MEv.proc, MEv.ops]
    rw [if_neg h1, h1b]
    cases opnP l k p with
    | none => rfl
    | some i => rfl
/-- What Check comes to. -/
def ChkR (l : List MEv) (a y : Int) : Prop :=
  (canM l = false ∧ a = 0 ∧ y = 1) ∨ (canM l = true ∧ ∃ k, k < l.length ∧ (∀ j, j < k → stepE l j = 0) ∧ stepE l k ≠ 0 ∧ a = (k : Int) ∧ y = stepE l k) ∨ (canM l = true ∧ (∀ j, j < l.length → stepE l j = 0) ∧ a = 0 ∧ y = 0)
theorem ChkR.arg {l : List MEv} (h : canM l = false) : ChkR l 0 1 := .inl ⟨h, rfl, rfl⟩
theorem ChkR.bad {l : List MEv} (h : canM l = true) (k : Nat) (hk : k < l.length) (hz : ∀ j, j < k → stepE l j = 0) (hs : stepE l k ≠ 0) : ChkR l (k : Int) (stepE l k) := .inr (.inl ⟨h, k, hk, hz, hs, rfl, rfl⟩)
theorem ChkR.good {l : List MEv} (h : canM l = true) (hz : ∀ j, j < l.length → stepE l j = 0) : ChkR l 0 0 := .inr (.inr ⟨h, hz, rfl, rfl⟩)
theorem TxnsR.chk {l : List MEv} {B : Nat} {w : World} {v : Value} {a y : Int} (h : TxnsR l B w v a y) : ChkR l a y := by
  rcases h with ⟨h, _, h1, h2⟩ | ⟨h, k, hk, hz, hs, _, h1, h2⟩ | ⟨h, hz, _, h1, h2⟩
  · exact .inl ⟨h, h1, h2⟩
  · exact .inr (.inl ⟨h, k, hk, hz, hs, h1, h2⟩)
  · exact .inr (.inr ⟨h, hz, h1, h2⟩)
theorem ChkR.one {l : List MEv} {a y a' y' : Int} (h : ChkR l a y) (h' : ChkR l a' y') : a = a' ∧ y = y' := by
  rcases h with ⟨h, rfl, rfl⟩ | ⟨h, k, hk, hz, hs, rfl, rfl⟩ | ⟨h, hz, rfl, rfl⟩ <;> rcases h' with ⟨h2, rfl, rfl⟩ | ⟨h2, k', hk', hz', hs', rfl, rfl⟩ | ⟨h2, hz', rfl, rfl⟩
  · exact ⟨rfl, rfl⟩
  · rw [h] at h2; cases h2
  · rw [h] at h2; cases h2
  · rw [h] at h2; cases h2
  · have e : k = k' := by
      rcases Nat.lt_trichotomy k k' with c | c | c
      · exact absurd (hz' k c) hs
      · exact c
      · exact absurd (hz k' c) hs'
    subst e
    exact ⟨rfl, rfl⟩
  · exact absurd (hz' k hk) hs
  · rw [h] at h2; cases h2
  · exact absurd (hz k' hk') hs'
  · exact ⟨rfl, rfl⟩
theorem ChkR.zero {l : List MEv} {a y : Int} (h : ChkR l a y) : y = 0 → a = 0 := by
  rcases h with ⟨h, rfl, rfl⟩ | ⟨h, k, hk, hz, hs, rfl, rfl⟩ | ⟨h, hz, rfl, rfl⟩
  · intro c; cases c
  · intro c; exact absurd c hs
  · intro _; rfl
/-- The operations of the first k events. -/
def opsL (l : List MEv) (k : Nat) : List (List MOp) := (List.range k).map fun j => (l.getD j default).ops
theorem opsL_len (l : List MEv) (k : Nat) : (opsL l k).length = k := by simp [opsL]
theorem opsL_succ (l : List MEv) (k : Nat) : opsL l (k + 1) = opsL l k ++ [(l.getD k default).ops] := by simp [opsL, List.range_succ]
theorem opsL_flat (l : List MEv) : ∀ k, (opsL l k).flatten = opsP l k
  | 0 => rfl
  | k + 1 => by
    rw [opsL_succ, List.flatten_append, opsL_flat l k]
    simp [opsP]
/-- Rows that lead into memory below H. -/
def AhR (H : Nat) (w : World) (vals : List Value) (X : List (List MOp)) : Prop := vals.length = X.length ∧ ∀ j, j < X.length → OpsIn (fun b => b < H) w (vals.getD j undef) (X.getD j default)
theorem AhR.all {H : Nat} {w : World} {vals : List Value} {X : List (List MOp)} (h : AhR H w vals X) : AllR w vals X := ⟨h.1, fun j hj => (h.2 j hj).keep (fun _ _ _ => rfl) (fun _ _ _ => trivial)⟩
theorem AhR.keep {H : Nat} {w w' : World} {vals : List Value} {X : List (List MOp)} (h : AhR H w vals X) (hk : ∀ b, b < H → b < w.heap.size → w'.heap[b]? = w.heap[b]?) : AhR H w' vals X := ⟨h.1, fun j hj => (h.2 j hj).keep (fun b hb hl => hk b hb hl) (fun _ _ hb => hb)⟩
theorem AhR.snoc {H : Nat} {w : World} {vals : List Value} {X : List (List MOp)} {v : Value} {O : List MOp} (h : AhR H w vals X) (hv : OpsIn (fun b => b < H) w v O) : AhR H w (vals ++ [v]) (X ++ [O]) := by
  refine ⟨by simp [h.1], fun j hj => ?_⟩
  simp at hj
  by_cases e : j < X.length
  · rw [getD_snoc_old e]
    have e2 : (vals ++ [v]).getD j undef = vals.getD j undef := by simp [List.getD, List.getElem?_append_left (show j < vals.length by rw [h.1]; exact e)]
    rw [e2]
    exact h.2 j e
  · have ej : j = X.length := by omega
    rw [getD_snoc_new ej]
    have e2 : (vals ++ [v]).getD j undef = v := by
      rw [ej, ← h.1]
      simp [List.getD]
    rw [e2]
    exact hv
/-- The processes while they are filled. -/
def PF (W w : World) (sb q : Nat) : Prop := ButB sb W w ∧ (∀ r : Nat, r < 100 → w.cell? ⟨sb, r * 2, none⟩ = some (.bool false) ∧ w.cell? ⟨sb, r * 2 + 1, none⟩ = some (.int .i64 (if r < q then -1 else 0))) ∧ ∀ o, w.frozen? ⟨sb, o, none⟩ = false
theorem PF.next {W w : World} {sb q : Nat} (h : PF W w sb q) (hq : q < 100) : PF W (w.setCell ⟨sb, q * 2 + 1, none⟩ (.int .i64 (-1))) sb (q + 1) := by
  refine ⟨⟨h.1.1, h.1.2.1, h.1.2.2.1, by simpa [World.setCell] using h.1.2.2.2.1, fun b hb hn => (set_ne hn).trans (h.1.2.2.2.2 b hb hn)⟩, fun r hr => ?_, fun o => by rw [World.frozen?_setCell]; exact h.2.2 o⟩
  obtain ⟨a1, a2⟩ := h.2.1 r hr
  refine ⟨(World.cell?_setCell_other _ _ _ _ (fun c => by have := congrArg Addr.off c; simp only [] at this; omega)).trans a1, ?_⟩
  by_cases e : r = q
  · subst e
    rw [if_pos (by omega)]
    exact World.cell?_setCell_same _ _ _ a2
  · refine (World.cell?_setCell_other _ _ _ _ (fun c => by have := congrArg Addr.off c; simp only [] at this; omega)).trans (a2.trans ?_)
    by_cases e2 : r < q
    · rw [if_pos e2, if_pos (by omega)]
    · rw [if_neg e2, if_neg (by omega)]
/-- What is known at the head of the second loop. -/
def ChI (w : World) (sb : Nat) (l : List MEv) (k : Nat) (av : Value) (wr : World) : Prop := PC wr sb l k ∧ (∃ vals, wr.ownsRow (sb + 1) 40 1 av k vals ∧ AhR w.heap.size wr vals (opsL l k)) ∧ Below w.heap.size w wr ∧ sb < wr.heap.size ∧ ∀ j, j < k → stepE l j = 0
set_option maxHeartbeats 8000000 in
set_option maxRecDepth 100000 in
theorem rcheck_is {S : Nat → Prop} (w : World) (v : Value) (l : List MEv) (h : EvsIn S w v l) (hkf : KeysFit l) :
    Calls Tryd.prog 11 #[v] w fun e w' => ∃ a y, e = .returned (.tuple #[.int .i64 a, .int .i64 y]) ∧ Below w.heap.size w w' ∧ ChkR l a y := by
  have CAN := hid (refCan_any v l w hkf h)
  cases hcan : canM l with
  | false =>
    rw [hcan] at CAN
    have HC := hid hcan
    clear h hcan hkf
    go_enter Tryd.func11, Tryd.ntmps11
    go_wp2_with (go_at_call 19; refine CAN.out.mono ?_; rintro e w1 ⟨rfl, b1⟩; have B1 := hid b1; clear b1)
    go_ret2
    exact ⟨0, 1, rfl, B1.out, .arg HC.out⟩
  | true =>
    rw [hcan] at CAN
    have HC := hid hcan
    obtain ⟨a1, c1, rfl, hbig, k0⟩ := RowsIn.cells h (by omega)
    have HR := hid k0
    have hl300 : l.length ≤ 300 := by
      unfold canM at hcan
      rw [Bool.and_eq_true, decide_eq_true_eq] at hcan
      exact hcan.1
    have hli : (l.length : Int) ≤ 300 := by omega
    have hmk := mkPs
    clear h hcan k0 hkf
    go_enter Tryd.func11, Tryd.ntmps11
    go_upto_region 4 with (go_at_call 19; refine CAN.out.mono ?_; rintro e w1 ⟨rfl, b1⟩; have B1 := hid b1; clear b1)
    clear hmk
    obtain ⟨W, hW⟩ : ∃ W, w1.alloc (.cells (madeCells #[Value.bool false, .int .i64 0] 200) 51) = W := ⟨_, rfl⟩
    have BW1 : Hid (Below w.heap.size w W) := by rw [← hW]; exact bstep (below_box _ _) B1.out
    have hwl : w.heap.size ≤ w1.heap.size := B1.out.size
    obtain ⟨sb, hsb⟩ : ∃ sb, w1.heap.size = sb := ⟨_, rfl⟩
    have WS : Hid (W.heap.size = sb + 1) := by show _ = _; rw [← hW, ← hsb]; simp
    have P0 : Hid (PF W W sb 0) := by
      refine ⟨ButB.refl _ _, fun r hr => ?_, fun o => ?_⟩
      · obtain ⟨q1, q2⟩ := ps_at r hr
        rw [if_neg (Nat.not_lt_zero _), ← hW, ← hsb]
        exact ⟨(new_cells w1 _ 51 _).trans q1, (new_cells w1 _ 51 _).trans q2⟩
      · rw [← hW, ← hsb]
        exact Lib.frozen_of_heap (heap_alloc_new _ _) o
    rw [hsb] at hwl
    rw [hW]
    rw [hsb]
    clear hW B1 hsb
    go_wp2_with fail
    go_loopg [5, 16] 100 (fun gg _ i wr => ∃ q : Nat, q ≤ 100 ∧ 100 - q ≤ gg ∧ i = .int .i64 q ∧ Aside (PF W wr sb q))
    case atStart => exact ⟨0, Nat.zero_le _, by omega, rfl, P0.out⟩
    case round =>
      obtain ⟨q, hq, hgq, rfl, AR⟩ := hrel
      by_cases hlt : q < 100
      · have hlti : (q : Int) < 100 := by omega
        have c1 := (AR.out.2.1 q hlt).2
        have f1 := AR.out.2.2 (q * 2 + 1)
        have N1 := hid (AR.out.next hlt)
        clear AR
        go_wp2_with fail
        go_roundg (100 - (q + 1))
        case measure => omega
        case rel => exact ⟨q + 1, by omega, by omega, by go_num, N1.out⟩
      · have hq100 : q = 100 := by omega
        subst hq100
        have CH0 : Hid (ChI w sb l 0 (.slice none 0 0) wr) := by
          have q1 := AR.out.1
          refine ⟨⟨fun r hr => ?_, AR.out.2.2⟩, ⟨[], World.ownsRow_nil _ _ _ _, rfl, fun j hj => absurd hj (Nat.not_lt_zero _)⟩, ⟨q1.1.trans BW1.out.os, q1.2.1.trans BW1.out.tape, q1.2.2.1.trans BW1.out.output, Nat.le_trans BW1.out.size q1.2.2.2.1, fun b hb => (q1.2.2.2.2 b (Nat.lt_of_lt_of_le hb BW1.out.size) (by omega)).trans (BW1.out.block b hb)⟩, ?_, fun j hj => absurd hj (Nat.not_lt_zero _)⟩
          · have := AR.out.2.1 r hr
            rw [if_pos hr] at this
            exact this
          · have := q1.2.2.2.1
            have := WS.out
            omega
        have B0 : Hid (Below w.heap.size w wr) := CH0.out.2.2.1
        clear AR P0
        go_wp2_with fail
        go_loopg [6, 7, 8, 9, 26] l.length (fun gg av _ _ _ i wr => ∃ k : Nat, k ≤ l.length ∧ l.length - k ≤ gg ∧ i = .int .i64 k ∧ Aside (ChI w sb l k av wr))
        case atStart => exact ⟨0, Nat.zero_le _, by omega, rfl, CH0.out⟩
        case round =>
          clear CH0 B0
          obtain ⟨k, hk, hgk, rfl, CI⟩ := hrel
          by_cases hltk : k < l.length
          · have hltki : (k : Int) < (l.length : Int) := by omega
            obtain ⟨PCk, ⟨vals, hown, hah⟩, hbel, hsbl, hz⟩ := CI.out
            have BR := hid hbel
            obtain ⟨b1, o1, cs, rfl, hb1, _, ⟨ov, rfl, hov⟩, hcs⟩ := HR.out k hltk
            obtain ⟨⟨q1, q2, q3, q4, q5, q6⟩, q7⟩ := can_ev HC.out hltk
            have d0 : wr.cell? ⟨b1, o1 + k * 3, none⟩ = _ := cell_later hbel (hcs 0 _ rfl)
            have d1 := cell_later hbel (hcs 1 _ rfl)
            have d2 := cell_later hbel (hcs 2 _ rfl)
            obtain ⟨p, hp⟩ : ∃ p : Nat, (l.getD k default).proc = (p : Int) := ⟨(l.getD k default).proc.toNat, by omega⟩
            have hE : l.getD k default = ((l.getD k default).kind, (p : Int), (l.getD k default).ops) := by rw [← hp]
            rw [hp] at d1 q4
            have hp100 : p < 100 := by omega
            have hov2 : OpsIn (fun b => b < w.heap.size) w ov (l.getD k default).ops := hov.keep (fun _ _ _ => rfl) (fun b hb _ => hb)
            obtain ⟨oa, oc, rfl, _⟩ := id hov
            have SE := hid (step_rs l k)
            have SF : Hid (stepF l k = rsR ((l.getD k default).kind == 1) (opnP l k (p : Int)).isSome (goneP l k (p : Int)) (askedO l k (p : Int) (l.getD k default).ops) (fitB (l.getD k default))) := by
              show _ = _
              unfold stepF
              rw [hp]
            have ST : Hid (∀ V, Below wr.heap.size wr V → Calls Tryd.prog 20 #[.slice (some ⟨b1, o1, none⟩) l.length c1, .int .i64 (k : Int), .pointer (some ⟨sb, p * 2, none⟩)] V fun e w' => StepP V sb k p (l.getD k default).kind (stepF l k) e w') := fun V hV => by
              rw [SF.out]
              have hfit : filB (l.getD k default).ops ((l.getD k default).kind == 2) = fitB (l.getD k default) := fil_fit (fun o ho => (q7 o ho).1)
              have cV : ∀ {a u}, wr.cell? a = some u → V.cell? a = some u := fun hc => cell_later hV hc
              have fV : ∀ o, V.frozen? ⟨sb, o, none⟩ = false := fun o => (hV.frozen (p := ⟨sb, o, none⟩) hsbl).trans (PCk.2 o)
              have s1 := (PCk.1 p hp100).2
              cases hq : opnP l k (p : Int) with
              | none =>
                have s1' : wr.cell? ⟨sb, p * 2 + 1, none⟩ = some (.int .i64 (-1)) := by rw [s1]; unfold opI; rw [hq]
                exact step_walk (S' := Any) (X := []) (xv := undef) (i := 0) (opn := false) V b1 o1 l.length c1 k p sb _ (-1) _ _ _ (goneP l k (p : Int)) (askedO l k (p : Int) (l.getD k default).ops) _ hltk hl300 rfl rfl (cV d0) (cV d1) (cV d2) (cV (PCk.1 p hp100).1) (cV s1') (fV _) (fV _) (fun c => by cases c) (hov.keep (T := Any) (keeps_below (bstep hV hbel)) (fun _ _ _ => trivial)) hfit
              | some i =>
                have hat := opnP_at hq
                have s1' : wr.cell? ⟨sb, p * 2 + 1, none⟩ = some (.int .i64 (i : Int)) := by rw [s1]; unfold opI; rw [hq]
                obtain ⟨b2, o2, cs2, hab, hb2, _, ⟨xv, rfl, hxv⟩, hcs2⟩ := HR.out i (by omega)
                injection hab with hab
                injection hab with hb' ho'
                subst hb' ho'
                exact step_walk (S' := Any) V b1 o1 l.length c1 k p sb _ (i : Int) _ (l.getD i default).ops _ xv i _ true (goneP l k (p : Int)) (askedO l k (p : Int) (l.getD k default).ops) _ hltk hl300 rfl rfl (cV d0) (cV d1) (cV d2) (cV (PCk.1 p hp100).1) (cV s1') (fV _) (fV _) (fun _ => ⟨by omega, cell_later (bstep hV hbel) (hcs2 2 _ rfl), hxv.keep (T := Any) (keeps_below (bstep hV hbel)) (fun _ _ _ => trivial), by unfold askedO; rw [hq]⟩) (hov.keep (T := Any) (keeps_below (bstep hV hbel)) (fun _ _ _ => trivial)) hfit
            have hgo : stepF l k = 0 → (l.getD k default).kind = 1 → goneP l k (p : Int) = false := fun h0 h1 => by
              have q := SF.out.symm.trans h0
              rw [h1] at q
              unfold rsR at q
              cases hg : goneP l k (p : Int) with
              | false => rfl
              | true => rw [hg] at q; simp at q
            have PCN : Hid (∀ V, Below wr.heap.size wr V → stepF l k = 0 → PC (if (l.getD k default).kind = 1 then V.setCell ⟨sb, p * 2 + 1, none⟩ (.int .i64 (k : Int)) else (V.setCell ⟨sb, p * 2 + 1, none⟩ (.int .i64 (-1))).setCell ⟨sb, p * 2, none⟩ (.bool ((l.getD k default).kind == 4))) sb l (k + 1)) := fun V hV h0 => PC.put (PCk.same (hV.block sb hsbl)) hE hp100 (hgo h0)
            have MIX : Hid (∀ V, (∀ b, b < wr.heap.size → b ≠ sb → V.heap[b]? = wr.heap[b]?) → Calls Tryd.prog 21 #[u6, .slice oa (l.getD k default).ops.length oc] V fun e w' => e = .returned (.bool (mixB (opsP l k) (l.getD k default).ops)) ∧ Below V.heap.size V w') := fun V hV => by
              have q := mixed_is V (sb + 1) k u6 (.slice oa (l.getD k default).ops.length oc) vals (opsL l k) (l.getD k default).ops (owns_keep hown (fun g hg => hV g (hown.lt g hg).2 (by have := (hown.lt g hg).1; omega))) (AhR.all (hah.keep (fun b hb hl => hV b hl (by omega)))) (opsL_len l k) (by omega) (hov2.keep (fun b hb hl => (hV b (Nat.lt_of_lt_of_le hl hbel.size) (by omega)).trans (hbel.block b hl)) (fun _ _ _ => trivial))
              rw [opsL_flat] at q
              exact q
            obtain ⟨va, vc, rfl⟩ := own_slice hown
            have HOWN := hid hown
            have HAH := hid hah
            have HZ := hid hz
            have HOV := hid hov2
            obtain ⟨W1, hW1⟩ : ∃ W1, wr.alloc (.cells #[.int .i64 (l.getD k default).kind, .int .i64 (p : Int), .slice oa (l.getD k default).ops.length oc] 42) = W1 := ⟨_, rfl⟩
            have BV1 : Hid (Below wr.heap.size wr W1) := by rw [← hW1]; exact below_box wr _
            obtain ⟨xb, hxb⟩ : ∃ xb, wr.heap.size = xb := ⟨_, rfl⟩
            have x1 : W1.cell? ⟨xb, 1, none⟩ = some (.int .i64 (p : Int)) := by rw [← hW1, ← hxb]; exact new_cells wr _ 42 1
            have x2 : W1.cell? ⟨xb, 2, none⟩ = some (.slice oa (l.getD k default).ops.length oc) := by rw [← hW1, ← hxb]; exact new_cells wr _ 42 2
            have hpi : (p : Int) < 100 := by omega
            have hxs : xb ≠ sb := by omega
            have STW := hid (ST.out W1 BV1.out)
            have PCW := hid (fun V hV h0 => PCN.out V (bstep hV BV1.out) h0)
            clear ST PCN hcs hov PCk hown hah hbel hz CI hE hgo SF hp q1 q2 q3 q4 q5 q6 q7
            obtain ⟨O, hOe⟩ : ∃ O, (l.getD k default).ops = O := ⟨_, rfl⟩
            have HOE := hid hOe
            rw [hOe] at MIX SE x2 HOV d2 hW1
            clear hOe
            obtain ⟨ek, hek⟩ : ∃ ek, (l.getD k default).kind = ek := ⟨_, rfl⟩
            rw [hek] at d0 hW1 STW PCW
            clear hek
            by_cases hs : stepF l k = 0
            · have STZ : Hid (Calls Tryd.prog 20 #[.slice (some ⟨b1, o1, none⟩) l.length c1, .int .i64 (k : Int), .pointer (some ⟨sb, p * 2, none⟩)] W1 fun e w' => e = .returned (.int .i64 0) ∧ PC w' sb l (k + 1) ∧ ButB sb W1 w') := STW.out.mono fun e w' ⟨h1, V, h2, h3⟩ => by
                rw [hs] at h1
                rw [if_pos hs] at h3
                refine ⟨h1, by rw [h3]; exact PCW.out V h2 hs, ?_⟩
                rw [h3]
                by_cases hk1 : ek = 1
                · rw [if_pos hk1]
                  exact ⟨h2.os, h2.tape, h2.output, by simpa [World.setCell] using h2.size, fun b hb hn => (set_ne hn).trans (h2.block b hb)⟩
                · rw [if_neg hk1]
                  exact ⟨h2.os, h2.tape, h2.output, by simpa [World.setCell] using h2.size, fun b hb hn => (set_ne hn).trans ((set_ne hn).trans (h2.block b hb))⟩
              have SE2 : Hid (stepE l k = if mixB (opsP l k) O then 33 else 0) := by
                have := SE.out
                rw [if_pos hs] at this
                exact this
              have OLDB : Hid (∀ V, ButB sb W1 V → ∀ b, b < wr.heap.size → b ≠ sb → V.heap[b]? = wr.heap[b]?) := fun V hV b hb hn => (hV.2.2.2.2 b (Nat.lt_of_lt_of_le hb BV1.out.size) hn).trans (BV1.out.block b hb)
              clear hs STW PCW SE
              obtain ⟨M, hM⟩ : ∃ M, mixB (opsP l k) O = M := ⟨_, rfl⟩
              rw [hM] at MIX SE2
              clear hM
              cases M with
              | true =>
                have BADE : Hid (stepE l k = 33) := SE2.out
                go_wp2_with (first
                  | (go_at_call 20; refine STZ.out.mono ?_; rintro e w2 ⟨rfl, p2, b2⟩; have P2 := hid p2; have B2 := hid b2; have y2 := cell_same (b2.2.2.2.2 xb (World.block_lt_of_cell? _ _ x2) hxs) x2; clear p2 b2)
                  | (go_at_call 21; refine (MIX.out w2 (OLDB.out w2 B2.out)).mono ?_; rintro e w3 ⟨rfl, b3⟩; have B3 := hid b3; clear b3))
                go_ret2
                refine ⟨(k : Int), 33, rfl, ?_, ?_⟩
                · have hb2 := B2.out
                  refine ⟨B3.out.os.trans (hb2.1.trans (BV1.out.os.trans BR.out.os)), B3.out.tape.trans (hb2.2.1.trans (BV1.out.tape.trans BR.out.tape)), B3.out.output.trans (hb2.2.2.1.trans (BV1.out.output.trans BR.out.output)), Nat.le_trans BR.out.size (Nat.le_trans BV1.out.size (Nat.le_trans hb2.2.2.2.1 B3.out.size)), fun b hb => (B3.out.block b (by have := BR.out.size; have := BV1.out.size; have := hb2.2.2.2.1; omega)).trans ((OLDB.out w2 hb2 b (Nat.lt_of_lt_of_le hb BR.out.size) (by omega)).trans (BR.out.block b hb))⟩
                · have q := ChkR.bad HC.out k hltk HZ.out (by rw [BADE.out]; decide)
                  rw [BADE.out] at q
                  exact q
              | false =>
                have OKE : Hid (stepE l k = 0) := SE2.out
                obtain ⟨i0, hi0, hz0, hz1, hz2⟩ := info_parts Tryd.infoS
                have HI0 := hid hi0
                have HZ0 := hid hz0
                have HZ1 := hid hz1
                have HZ2 := hid hz2
                clear hi0 hz0 hz1 hz2
                have ONE : Hid (∀ u ∈ ([.slice oa O.length oc] : List Value), u.oneCell' = true) := fun u hu => by
                  rw [List.mem_singleton] at hu
                  rw [hu]
                  rfl
                go_wp2_with (first
                  | (go_at_call 20; refine STZ.out.mono ?_; rintro e w2 ⟨rfl, p2, b2⟩; have P2 := hid p2; have B2 := hid b2; have y2 := cell_same (b2.2.2.2.2 xb (World.block_lt_of_cell? _ _ x2) hxs) x2; clear p2 b2)
                  | (go_at_call 21; refine (MIX.out w2 (OLDB.out w2 B2.out)).mono ?_; rintro e w3 ⟨rfl, b3⟩; have B3 := hid b3; have y3 := cell_later b3 y2; have OWN3 : Hid (w3.ownsRow (sb + 1) 40 1 (.slice va k vc) k vals) := owns_keep HOWN.out (fun g hg => (b3.block g (by have := (HOWN.out.lt g hg).2; have := BV1.out.size; have := B2.out.2.2.2.1; omega)).trans (OLDB.out w2 B2.out g (HOWN.out.lt g hg).2 (by have := (HOWN.out.lt g hg).1; omega))); clear b3)
                  | (at_builtin; refine wpList_append_lies _ rfl _ _ 52 rfl (sb + 1) 40 i0 (.slice none 0 0) 1 24 Tryd.underlying52 HI0.out HZ0.out HZ1.out HZ2.out rfl (by decide) (.slice va k vc) k vals rfl (owns_keep OWN3.out (fun g hg => (below_box w3 _).block g (OWN3.out.lt g hg).2)) ⟨w3.heap.size, 0, none⟩ 1 1 [.slice oa O.length oc] rfl rfl (World.news_of_block (cs := #[.slice oa O.length oc]) (t := 40) (fr := (0, 0)) (heap_alloc_new w3 _)) ONE.out (by decide) (by unfold maxLen; omega) (by omega) (by have := B3.out.size; have := BV1.out.size; have := B2.out.2.2.2.1; simp; omega) _ rfl ?_; intro g cap W5 hown5 hgr5 hat5 hgl5; have O5 := hid hown5; have G5 := hid hgr5; clear hown5 hgr5 hat5 hgl5))
                go_roundg (l.length - (k + 1))
                case measure => omega
                case rel =>
                  refine ⟨k + 1, by omega, by omega, by go_num, ?_⟩
                  have hb2 := B2.out
                  have hb3 := B3.out
                  have s1 := BV1.out.size
                  have s2 := hb2.2.2.2.1
                  have s3 := hb3.size
                  have s0 := BR.out.size
                  have own : ∀ b, b ≤ sb → (Value.slice va k vc).ownBlock ≠ some b := fun b hb c => by have := (OWN3.out.lt b c).1; omega
                  have e5 : ∀ b, b < w3.heap.size → b ≤ sb → W5.heap[b]? = w3.heap[b]? := fun b hl hb => (G5.out.block b (Nat.lt_of_lt_of_le hl (below_box w3 _).size) (fun e => own b hb e.symm)).trans ((below_box w3 _).block b hl)
                  have old : ∀ b, b < w.heap.size → W5.heap[b]? = wr.heap[b]? := fun b hb => (e5 b (by omega) (by omega)).trans ((hb3.block b (by omega)).trans (OLDB.out w2 hb2 b (by omega) (by omega)))
                  have gs : w3.heap.size ≤ W5.heap.size := Nat.le_trans (below_box w3 (.cells #[.slice oa O.length oc] 40)).size G5.out.size
                  refine ⟨P2.out.same ((e5 sb (by omega) (Nat.le_refl _)).trans (hb3.block sb (by omega))), ⟨_, O5.out, ?_⟩, ⟨G5.out.os.trans (hb3.os.trans (hb2.1.trans (BV1.out.os.trans BR.out.os))), G5.out.tape.trans (hb3.tape.trans (hb2.2.1.trans (BV1.out.tape.trans BR.out.tape))), G5.out.output.trans (hb3.output.trans (hb2.2.2.1.trans (BV1.out.output.trans BR.out.output))), by omega, fun b hb => (old b hb).trans (BR.out.block b hb)⟩, by omega, fun j hj => ?_⟩
                  · rw [opsL_succ, show (l.getD k default).ops = O from HOE.out]
                    exact (HAH.out.keep (fun b hb _ => old b hb)).snoc (HOV.out.keep (fun b hb hl => (old b hb).trans (BR.out.block b hb)) (fun _ _ h => h))
                  · by_cases e : j = k
                    · rw [e]; exact OKE.out
                    · exact HZ.out j (by omega)
            · have STZ : Hid (Calls Tryd.prog 20 #[.slice (some ⟨b1, o1, none⟩) l.length c1, .int .i64 (k : Int), .pointer (some ⟨sb, p * 2, none⟩)] W1 fun e w' => e = .returned (.int .i64 (stepE l k)) ∧ Below W1.heap.size W1 w') := STW.out.mono fun e w' ⟨h1, V, h2, h3⟩ => by
                rw [if_neg hs] at h3
                have := SE.out
                rw [if_neg hs] at this
                rw [h3]
                exact ⟨by rw [h1, this], h2⟩
              have hne : stepE l k ≠ 0 := by
                have := SE.out
                rw [if_neg hs] at this
                rw [this]
                exact hs
              have FIN : Hid (ChkR l (k : Int) (stepE l k)) := .bad HC.out k hltk HZ.out hne
              clear hs STW PCW SE MIX HOWN HAH
              obtain ⟨s, hse⟩ : ∃ s, stepE l k = s := ⟨_, rfl⟩
              rw [hse] at STZ hne FIN
              have n0 : (s != (0 : Int)) = true := by simpa using hne
              have n1 : (s == (0 : Int)) = false := by simpa using hne
              clear hse hne
              go_wp2_with (go_at_call 20; refine STZ.out.mono ?_; rintro e w2 ⟨rfl, b2⟩; have B2 := hid b2; clear b2)
              go_ret2
              exact ⟨(k : Int), s, rfl, bstep B2.out (bstep BV1.out BR.out), FIN.out⟩
          · have hke : k = l.length := by omega
            subst hke
            have hltki : ¬ ((l.length : Int) < (l.length : Int)) := by omega
            have FIN : Hid (Below w.heap.size w wr ∧ ChkR l 0 0) := ⟨CI.out.2.2.1, .good HC.out CI.out.2.2.2.2⟩
            clear CI
            go_wp2_with fail
            go_ret2
            exact ⟨0, 0, rfl, FIN.out.1, FIN.out.2⟩
end Go.Proofs.YtjobdfgcgnpppaaDoor
namespace Go.Proofs.YtjobdfgcgnpppaaDoor
set_option linter.unusedVariables false
set_option linter.unusedSimpArgs false
open Go.RowKit Go.Lib Go.Maps

theorem evsEq_refl (l : List MEv) : evsEq l l = true := allEq_refl _ evEq_refl l
set_option maxHeartbeats 4000000 in
set_option maxRecDepth 100000 in
theorem checks_walk {S : Nat → Prop} (w : World) (v : Value) (l : List MEv) (h : EvsIn S w v l) (hkf : KeysFit l) (hg : w.cell? ⟨0, 0, none⟩ = some (.iface 104 (.agg #[.pointer (some ⟨1, 25, none⟩)]))) :
    Calls Tryd.prog 3 #[v] w fun e w' => e = .returned (.bool true) ∧ Below w.heap.size w w' := by
  have HE := hid h
  have HG := hid hg
  have HK := hid hkf
  have EV := hid (events_any v l w h)
  obtain ⟨va, vc, rfl, _⟩ := id h
  clear h hg hkf
  go_enter Tryd.func3, Tryd.ntmps3
  go_wp2_with (first
    | (go_at_call 9; refine EV.out.mono ?_; rintro e w1 ⟨v1, rfl, h1, b1⟩; have H1 := hid h1; have B1 := hid b1; have CK := hid (check_is w1 v1 l h1 (cell_later b1 HG.out)); clear h1 b1)
    | (go_at_call 10; refine CK.out.mono ?_; rintro e w2 ⟨tv, a, y, rfl, b2, t2⟩; have B2 := hid (bstep b2 B1.out); have H2 := hid (EvsIn.keep (T := Any) H1.out (keeps_below b2) (fun _ _ _ => trivial)); have T2 := hid t2.chk; have RC := hid (rcheck_is w2 (.slice va l.length vc) l (EvsIn.keep (T := Any) HE.out (keeps_below (bstep b2 B1.out)) (fun _ _ _ => trivial)) HK.out); clear b2 t2)
    | (go_at_call 11; refine RC.out.mono ?_; rintro e w3 ⟨a', y', rfl, b3, t3⟩; have B3 := hid (bstep b3 B2.out); have H3 := hid (EvsIn.keep (T := Any) H2.out (keeps_below b3) (fun _ _ _ => trivial)); obtain ⟨ea, ey⟩ := T2.out.one t3; subst ea; subst ey; have IS : Hid (Calls Tryd.prog 12 #[errV a y, .int .i64 a, .int .i64 y] w3 fun e w' => e = .returned (.bool true) ∧ Below w3.heap.size w3 w') := (is_is a y a y T2.out.zero w3).mono (fun e w' ⟨h1, h2⟩ => ⟨by rw [h1]; simp, h2⟩); clear b3 t3)
    | (go_at_call 12; refine IS.out.mono ?_; rintro e w4 ⟨rfl, b4⟩; have B4 := hid (bstep b4 B3.out); have SM : Hid (Calls Tryd.prog 13 #[v1, .slice va l.length vc] w4 fun e w' => e = .returned (.bool true) ∧ Below w4.heap.size w4 w') := (same_any v1 (.slice va l.length vc) l l w4 (EvsIn.keep (T := Any) H3.out (keeps_below b4) (fun _ _ _ => trivial)) (EvsIn.keep (T := Any) HE.out (keeps_below B4.out) (fun _ _ _ => trivial))).mono (fun e w' ⟨h1, h2⟩ => ⟨by rw [h1, evsEq_refl], h2⟩); clear b4)
    | (go_at_call 13; refine SM.out.mono ?_; rintro e w5 ⟨rfl, b5⟩; have B5 := hid (bstep b5 B4.out); clear b5))
  go_ret
  exact ⟨rfl, B5.out⟩
end Go.Proofs.YtjobdfgcgnpppaaDoor
namespace Go.Proofs.YtjobdfgcgnpppaaDoor
set_option linter.unusedVariables false
set_option linter.unusedSimpArgs false
open Go.RowKit Go.Lib Go.Maps

/-- How many of the first k events are completions. -/
def endN (l : List MEv) : Nat → Nat
  | 0 => 0
  | k + 1 => if (l.getD k default).kind = 1 then endN l k else endN l k + 1
def tilB (t : MTx) : Bool := decide (0 ≤ t.till)
theorem step_opn {l : List MEv} {k : Nat} (h : stepE l k = 0) (h1 : (l.getD k default).kind ≠ 1) : ∃ i, opnP l k (l.getD k default).proc = some i := by
  unfold stepE at h
  rw [if_neg h1] at h
  cases hq : opnP l k (l.getD k default).proc with
  | none => rw [hq] at h; cases h
  | some i => exact ⟨i, rfl⟩
theorem txL_one {l : List MEv} {k : Nat} (h1 : (l.getD k default).kind = 1) : txL l (k + 1) = txL l k ++ [((l.getD k default).proc, 3, (k : Int), -1, (l.getD k default).ops)] := by
  show (if _ then _ else _) = _
  rw [if_pos h1]
theorem txL_end {l : List MEv} {k i : Nat} (h1 : (l.getD k default).kind ≠ 1) (ho : opnP l k (l.getD k default).proc = some i) : txL l (k + 1) = (txL l k).set (invN l i) ((l.getD k default).proc, staT (l.getD k default).kind, (i : Int), (k : Int), (l.getD k default).ops) := by
  show (if (l.getD k default).kind = 1 then _ else match opnP l k (l.getD k default).proc with | none => _ | some i => _) = _
  rw [if_neg h1, ho]
theorem tx_done {l : List MEv} : ∀ k, (∀ j, j < k → stepE l j = 0) → (txL l k).countP tilB = endN l k
  | 0, _ => rfl
  | k + 1, h => by
    have ih := tx_done k (fun j hj => h j (by omega))
    unfold endN
    by_cases h1 : (l.getD k default).kind = 1
    · rw [if_pos h1, txL_one h1, List.countP_append, ih]
      rfl
    · obtain ⟨i, hi⟩ := step_opn (h k (by omega)) h1
      have hat := opnP_at hi
      have hlt : invN l i < (txL l k).length := by rw [txL_len]; exact invN_lt hat.1 hat.2.2
      have ho := txL_open hi
      have e : (txL l k)[invN l i] = ((l.getD k default).proc, 3, (i : Int), -1, (l.getD i default).ops) := by
        rw [← ho]
        simp [List.getD, List.getElem?_eq_getElem hlt]
      rw [if_neg h1, txL_end h1 hi, List.countP_set hlt, e, ih]
      have a1 : tilB ((l.getD k default).proc, 3, (i : Int), -1, (l.getD i default).ops) = false := rfl
      have a2 : tilB ((l.getD k default).proc, staT (l.getD k default).kind, (i : Int), (k : Int), (l.getD k default).ops) = true := decide_eq_true (by show (0 : Int) ≤ (k : Int); omega)
      rw [a1, a2]
      simp
/-- What is told of a transaction's places. -/
def TxAt (l : List MEv) (k j : Nat) (t : MTx) : Prop := ∃ i, i < k ∧ invN l i = j ∧ (l.getD i default).kind = 1 ∧ t.since = (i : Int) ∧ t.proc = (l.getD i default).proc ∧ (t.till = -1 ∨ ∃ T : Nat, i < T ∧ T < k ∧ t.till = (T : Int))
theorem tx_at {l : List MEv} : ∀ k, (∀ j, j < k → stepE l j = 0) → ∀ j, j < invN l k → TxAt l k j ((txL l k).getD j default)
  | 0, _, j, hj => absurd hj (Nat.not_lt_zero _)
  | k + 1, h, j, hj => by
    have ih := tx_at k (fun j hj => h j (by omega))
    have up : ∀ t, TxAt l k j t → TxAt l (k + 1) j t := fun t ⟨i, a1, a2, a3, a4, a5, a6⟩ => ⟨i, by omega, a2, a3, a4, a5, a6.imp id (fun ⟨T, b1, b2, b3⟩ => ⟨T, b1, by omega, b3⟩)⟩
    by_cases h1 : (l.getD k default).kind = 1
    · rw [invN_succ, if_pos h1] at hj
      rw [txL_one h1]
      by_cases e : j < invN l k
      · rw [getD_snoc_old (by rw [txL_len]; exact e)]
        exact up _ (ih j e)
      · have ej : j = invN l k := by omega
        rw [getD_snoc_new (by rw [txL_len]; exact ej)]
        exact ⟨k, by omega, ej.symm, h1, rfl, rfl, .inl rfl⟩
    · obtain ⟨i, hi⟩ := step_opn (h k (by omega)) h1
      have hat := opnP_at hi
      rw [invN_succ, if_neg h1] at hj
      rw [txL_end h1 hi]
      by_cases e : invN l i = j
      · subst e
        rw [getD_set_new (by rw [txL_len]; exact invN_lt hat.1 hat.2.2)]
        exact ⟨i, by omega, rfl, hat.2.2, rfl, hat.2.1.symm, .inr ⟨k, hat.1, by omega, rfl⟩⟩
      · rw [getD_set_old e]
        exact up _ (ih j hj)
/-- How many of the first m transactions have an end. -/
def dnN (t : List MTx) : Nat → Nat
  | 0 => 0
  | m + 1 => if tilB (t.getD m default) then dnN t m + 1 else dnN t m
theorem dnN_le (t : List MTx) : ∀ m, dnN t m ≤ m
  | 0 => Nat.le_refl _
  | m + 1 => by
    have := dnN_le t m
    unfold dnN
    split <;> omega
theorem dnN_take (t : List MTx) : ∀ m, m ≤ t.length → dnN t m = (t.take m).countP tilB
  | 0, _ => by simp [dnN]
  | m + 1, h => by
    have e : t.take (m + 1) = t.take m ++ [t.getD m default] := by
      rw [List.take_add_one, List.getElem?_eq_getElem (show m < t.length by omega), List.getD, List.getElem?_eq_getElem (show m < t.length by omega)]
      rfl
    unfold dnN
    rw [e, List.countP_append, ← dnN_take t m (by omega)]
    clear e
    generalize t.getD m default = x
    cases hc : tilB x with
    | true => simp [hc]
    | false => simp [hc]
/-- The place of the last transaction, -1 ahead of them. -/
def lastS (t : List MTx) : Nat → Int
  | 0 => -1
  | m + 1 => (t.getD m default).since
theorem last_lt {l : List MEv} {k : Nat} (h : ∀ j, j < k → stepE l j = 0) (m : Nat) (hm : m < invN l k) : lastS (txL l k) m < ((txL l k).getD m default).since := by
  obtain ⟨i, a1, a2, a3, a4, _⟩ := tx_at k h m hm
  cases m with
  | zero => show (-1 : Int) < _; rw [a4]; omega
  | succ m =>
    obtain ⟨i', b1, b2, b3, b4, _⟩ := tx_at k h m (by omega)
    show ((txL l k).getD m default).since < _
    rw [a4, b4]
    have : i' < i := by
      by_cases c : i ≤ i'
      · have := invN_mono l c
        omega
      · omega
    omega
theorem endN_le (l : List MEv) : ∀ k, endN l k ≤ k
  | 0 => Nat.le_refl _
  | k + 1 => by
    have := endN_le l k
    unfold endN
    split <;> omega
set_option maxHeartbeats 8000000 in
set_option maxRecDepth 100000 in
theorem one_walk {S : Nat → Prop} (w : World) (v : Value) (l : List MEv) (h : EvsIn S w v l) (hkf : KeysFit l) (hg : w.cell? ⟨0, 0, none⟩ = some (.iface 104 (.agg #[.pointer (some ⟨1, 25, none⟩)]))) :
    Calls Tryd.prog 5 #[v] w fun e w' => e = .returned (.bool true) ∧ Below w.heap.size w w' := by
  have HE := hid h
  have HK := hid hkf
  have TX := hid (txns_is w v l h hg)
  obtain ⟨va, vc, rfl, hbig, k0⟩ := RowsIn.cells h (by decide)
  have HR := hid k0
  have hli : (l.length : Int) ≤ 3518437208884 := by omega
  clear h hg hkf k0
  go_enter Tryd.func5, Tryd.ntmps5
  go_upto_region 5 with (first
    | (go_at_call 14; refine TX.out.mono ?_; rintro e w2 ⟨tv, a, y, rfl, b2, t2⟩; have B2 := hid b2; have T2 := hid t2; have RC := hid (rcheck_is w2 (.slice va l.length vc) l (EvsIn.keep (T := Any) HE.out (keeps_below b2) (fun _ _ _ => trivial)) HK.out); clear b2 t2)
    | (go_at_call 11; refine RC.out.mono ?_; rintro e w3 ⟨a', y', rfl, b3, t3⟩; have B3 := hid (bstep b3 B2.out); have B23 := hid b3; obtain ⟨ea, ey⟩ := T2.out.chk.one t3; subst ea; subst ey; have IS : Hid (Calls Tryd.prog 12 #[errV a y, .int .i64 a, .int .i64 y] w3 fun e w' => e = .returned (.bool true) ∧ Below w3.heap.size w3 w') := (is_is a y a y T2.out.chk.zero w3).mono (fun e w' ⟨h1, h2⟩ => ⟨by rw [h1]; simp, h2⟩); clear b3 t3)
    | (go_at_call 12; refine IS.out.mono ?_; rintro e w4 ⟨rfl, b4⟩; have B4 := hid (bstep b4 B3.out); have B24 := hid (bstep b4 B23.out); clear b4))
  go_wp2_with fail
  go_loopg [7, 8, 10, 31] l.length (fun gg nv ev _ i wr => ∃ k : Nat, k ≤ l.length ∧ l.length - k ≤ gg ∧ i = .int .i64 k ∧ nv = .int .i64 (invN l k : Int) ∧ ev = .int .i64 (endN l k : Int) ∧ Aside (Below w4.heap.size w4 wr))
  case atStart => exact ⟨0, Nat.zero_le _, by omega, rfl, rfl, rfl, Below.refl _ _⟩
  case round =>
    obtain ⟨k, hk, hgk, rfl, rfl, rfl, BR⟩ := hrel
    have hiN := invN_le l k
    have heN := endN_le l k
    by_cases hlt : k < l.length
    · have hlti : (k : Int) < (l.length : Int) := by omega
      obtain ⟨b1, o1, cs, rfl, hb1, _, ⟨ov, rfl, hov⟩, hcs⟩ := HR.out k hlt
      have hbel := bstep BR.out B4.out
      have d0 : wr.cell? ⟨b1, o1 + k * 3, none⟩ = _ := cell_later hbel (hcs 0 _ rfl)
      have d1 := cell_later hbel (hcs 1 _ rfl)
      have d2 := cell_later hbel (hcs 2 _ rfl)
      obtain ⟨oa, oc, rfl, _⟩ := id hov
      have BN : ∀ o, Hid (Below w4.heap.size w4 (wr.alloc o)) := fun o => bstep (below_box _ _) BR.out
      have I1 : Hid (invN l (k + 1) = if (l.getD k default).kind = 1 then invN l k + 1 else invN l k) := rfl
      have E1 : Hid (endN l (k + 1) = if (l.getD k default).kind = 1 then endN l k else endN l k + 1) := rfl
      generalize (l.getD k default).kind = ek at *
      generalize (l.getD k default).proc = pp at *
      generalize (l.getD k default).ops.length = ol at *
      have hiI : (invN l k : Int) ≤ 3518437208884 := by omega
      have heI : (endN l k : Int) ≤ 3518437208884 := by omega
      clear hcs hov hbel
      by_cases h1 : ek = 1
      · have I2 : Hid ((invN l k : Int) + 1 = (invN l (k + 1) : Int)) := by show _ = _; rw [I1.out, if_pos h1]; omega
        have E2 : Hid (endN l (k + 1) = endN l k) := E1.out.trans (if_pos h1)
        subst h1
        clear I1 E1
        go_wp2_with fail
        go_roundg (l.length - (k + 1))
        case measure => omega
        case rel => exact ⟨k + 1, by omega, by omega, by go_num, by rw [I2.out], by rw [E2.out], (BN _).out⟩
      · have q1 : (ek == (1 : Int)) = false := by simpa using h1
        have I2 : Hid (invN l (k + 1) = invN l k) := I1.out.trans (if_neg h1)
        have E2 : Hid ((endN l k : Int) + 1 = (endN l (k + 1) : Int)) := by show _ = _; rw [E1.out, if_neg h1]; omega
        clear I1 E1 h1
        go_wp2_with fail
        go_roundg (l.length - (k + 1))
        case measure => omega
        case rel => exact ⟨k + 1, by omega, by omega, by go_num, by rw [I2.out], by rw [E2.out], (BN _).out⟩
    · have hlti : ¬ ((k : Int) < (l.length : Int)) := by omega
      have hke : k = l.length := by omega
      subst hke
      have BW := hid (bstep BR.out B4.out)
      have BW2 := hid (bstep BR.out B24.out)
      by_cases hy : y = 0
      · have q1 : (y != (0 : Int)) = false := by simpa using hy
        have q2 : (y == (0 : Int)) = true := by simpa using hy
        have GOOD : Hid ((∀ j, j < l.length → stepE l j = 0) ∧ ∃ rows, OutInv 44 5 TxR w.heap.size w2 tv (invN l l.length) rows (txL l l.length)) := by
          rcases T2.out with ⟨_, _, _, c⟩ | ⟨_, k, _, _, hs, _, _, c⟩ | ⟨_, hz, hr, _, _⟩
          · rw [hy] at c; cases c
          · exact absurd (c.symm.trans hy) hs
          · exact ⟨hz, hr⟩
        obtain ⟨hz, rows, hout0⟩ := GOOD.out
        have hout := hout0.later txR_keep BW2.out
        obtain ⟨ta, tc, rfl⟩ := own_slice hout.own
        have HZ := hid hz
        have HOUT := hid hout
        have DONE := hid (tx_done l.length hz)
        clear GOOD hout0 hout hz hy T2 TX RC IS
        obtain ⟨L, hL⟩ : ∃ L, txL l l.length = L := ⟨_, rfl⟩
        have LL : Hid (L.length = invN l l.length) := by show _ = _; rw [← hL]; exact txL_len l l.length
        have LAT : Hid (∀ m, m < invN l l.length → TxAt l l.length m (L.getD m default) ∧ lastS L m < (L.getD m default).since) := fun m hm => by
          rw [← hL]
          exact ⟨tx_at l.length HZ.out m hm, last_lt HZ.out m hm⟩
        rw [hL] at HOUT DONE
        have CEL : Hid (∀ m, m < invN l l.length → ∃ g ov, ta = some ⟨g, 0, none⟩ ∧ (∃ a n c, ov = Value.slice a n c) ∧ ∀ q u, ([.int .i64 (L.getD m default).proc, .int .i64 (L.getD m default).state, .int .i64 (L.getD m default).since, .int .i64 (L.getD m default).till, ov] : List Value)[q]? = some u → wr.cell? ⟨g, m * 5 + q, none⟩ = some u) := fun m hm => by
          obtain ⟨ov, hrow, hov⟩ := HOUT.out.each m hm
          rcases HOUT.out.own.2 with ⟨_, hn⟩ | ⟨g, cap, cur, hv, hg, hh, _⟩
          · omega
          · injection hv with a1
            refine ⟨g, ov, a1, (by obtain ⟨a, c, e, _⟩ := hov; exact ⟨a, _, c, e⟩), fun q u hq => ?_⟩
            have hq5 : q < 5 := by have := (List.getElem?_eq_some_iff.1 hq).1; simpa using this
            have := HOUT.out.own.cells (g := g) (by rw [a1]; rfl) (m * 5 + q) u (by rw [flatten_get 5 rows _ _ HOUT.out.sizes (by rw [HOUT.out.rn]; exact hm) hq5, hrow]; exact hq)
            rw [Addr.add_lit] at this
            simpa using this
        have hcap : invN l l.length ≤ tc := by
          rcases HOUT.out.own.2 with ⟨hv, hn⟩ | ⟨g', cap, cur, hv, hg, hh, hc, _⟩
          · omega
          · injection hv with _ _ a3
            omega
        have hMI : (invN l l.length : Int) ≤ 3518437208884 := by omega
        have heI : (endN l l.length : Int) ≤ 3518437208884 := by omega
        clear HOUT hL
        obtain ⟨M, hM⟩ : ∃ M, invN l l.length = M := ⟨_, rfl⟩
        obtain ⟨E, hE⟩ : ∃ E, endN l l.length = E := ⟨_, rfl⟩
        rw [hM] at LL LAT CEL hcap hMI hiN
        rw [hM]
        rw [hE] at DONE heI
        rw [hE]
        clear hM hE
        go_wp2_with fail
        go_loopg [8, 11, 13, 50] M (fun gg ev la _ i wr' => ∃ m : Nat, m ≤ M ∧ M - m ≤ gg ∧ i = .int .i64 m ∧ ev = .int .i64 ((E : Int) - (dnN L m : Int)) ∧ la = .int .i64 (lastS L m) ∧ Aside (Below wr.heap.size wr wr'))
        case atStart => exact ⟨0, Nat.zero_le _, by omega, rfl, by simp [dnN], rfl, Below.refl _ _⟩
        case round =>
          rename World => wt
          obtain ⟨m, hm, hgm, rfl, rfl, rfl, BT⟩ := hrel
          have hdm := dnN_le L m
          have hdI : (dnN L m : Int) ≤ 3518437208884 := by omega
          have hdI0 : (0 : Int) ≤ (dnN L m : Int) := by omega
          by_cases hltm : m < M
          · have hltmi : (m : Int) < (M : Int) := by omega
            obtain ⟨⟨i, i1, i2, i3, i4, i5, i6⟩, hla⟩ := LAT.out m hltm
            obtain ⟨g, ov, rfl, ⟨xa, xn, xc, rfl⟩, hc⟩ := CEL.out m hltm
            have LS : Hid (lastS L (m + 1) = (L.getD m default).since) := rfl
            have DN : Hid (dnN L (m + 1) = if tilB (L.getD m default) then dnN L m + 1 else dnN L m) := rfl
            have TB : Hid (tilB (L.getD m default) = decide (0 ≤ (L.getD m default).till)) := rfl
            obtain ⟨b1, o1, cs, rfl, hb1, _, ⟨ov1, rfl, hov⟩, hcs⟩ := HR.out i i1
            have x0 : wt.cell? ⟨b1, o1 + i * 3, none⟩ = _ := cell_later (bstep BT.out BW.out) (hcs 0 _ rfl)
            have x1 := cell_later (bstep BT.out BW.out) (hcs 1 _ rfl)
            rw [i3] at x0
            rw [← i5] at x1
            have d0 : wt.cell? ⟨g, m * 5, none⟩ = _ := cell_later BT.out (hc 0 _ rfl)
            have d1 := cell_later BT.out (hc 1 _ rfl)
            have d2 := cell_later BT.out (hc 2 _ rfl)
            have d3 := cell_later BT.out (hc 3 _ rfl)
            have d4 := cell_later BT.out (hc 4 _ rfl)
            have hii : (i : Int) < (l.length : Int) := by omega
            have hmt : (m : Int) < (tc : Int) := by omega
            have BN : ∀ o n, Hid (Below wr.heap.size wr ((wt.alloc o).drewN n)) := fun o n => below_drewN (bstep (below_box _ _) BT.out) n
            generalize lastS L m = la at *
            generalize (L.getD m default).proc = pp at *
            generalize (L.getD m default).state = ss at *
            generalize (L.getD m default).since = si at *
            generalize (L.getD m default).till = ti at *
            subst i4
            have n1 : ¬ ((i : Int) ≤ la) := by omega
            have hpp : (pp != pp) = false := by simp
            have hpp2 : (pp == pp) = true := by simp
            obtain ⟨W5, hW5⟩ : ∃ W5, wt.alloc (.cells #[.int .i64 pp, .int .i64 ss, .int .i64 (i : Int), .int .i64 ti, .slice xa xn xc] 44) = W5 := ⟨_, rfl⟩
            have BV : Hid (Below wt.heap.size wt W5) := by rw [← hW5]; exact below_box wt _
            obtain ⟨yb, hyb⟩ : ∃ yb, wt.heap.size = yb := ⟨_, rfl⟩
            have y0 : W5.cell? ⟨yb, 0, none⟩ = some (.int .i64 pp) := by rw [← hW5, ← hyb]; exact new_cells wt _ 44 0
            have y2 : W5.cell? ⟨yb, 2, none⟩ = some (.int .i64 (i : Int)) := by rw [← hW5, ← hyb]; exact new_cells wt _ 44 2
            have y3 : W5.cell? ⟨yb, 3, none⟩ = some (.int .i64 ti) := by rw [← hW5, ← hyb]; exact new_cells wt _ 44 3
            have z0 := cell_later BV.out x0
            have z1 := cell_later BV.out x1
            have BN5 : ∀ n, Hid (Below wr.heap.size wr (W5.drewN n)) := fun n => below_drewN (bstep BV.out BT.out) n
            clear hc hcs hov BN i2 i3 i5
            rcases i6 with rfl | ⟨T, t1, t2, rfl⟩
            · have tf : ¬ ((0 : Int) ≤ -1) := by decide
              have D2 : Hid (dnN L (m + 1) = dnN L m) := by
                show _ = _
                rw [DN.out, TB.out]
                rfl
              clear DN TB
              go_wp2_with fail
              clear hW5 hyb d0 d1 d2 d3 d4 x0 x1
              go_quiet (fail)
              go_wp2_with fail
              go_roundg (M - (m + 1))
              case measure => omega
              case rel => exact ⟨m + 1, by omega, by omega, by go_num, by rw [D2.out], by rw [LS.out], (BN5 _).out⟩
            · have tf : (0 : Int) ≤ (T : Int) := by omega
              have tf2 : ¬ ((T : Int) ≤ (i : Int)) := by omega
              have D2 : Hid ((E : Int) - (dnN L m : Int) - 1 = (E : Int) - (dnN L (m + 1) : Int)) := by
                show _ = _
                rw [DN.out, TB.out, decide_eq_true tf, if_pos rfl]
                omega
              clear DN TB
              go_wp2_with fail
              clear hW5 hyb d0 d1 d2 d3 d4 x0 x1
              go_quiet (fail)
              go_wp2_with fail
              go_roundg (M - (m + 1))
              case measure => omega
              case rel => exact ⟨m + 1, by omega, by omega, by go_num, by rw [D2.out], by rw [LS.out], (BN5 _).out⟩
          · have hltmi : ¬ ((m : Int) < (M : Int)) := by omega
            have hme : m = M := by omega
            have hfin : (E : Int) - (dnN L m : Int) = 0 := by
              have q := dnN_take L m (by rw [LL.out]; exact hm)
              rw [hme, List.take_of_length_le (by rw [LL.out]; exact Nat.le_refl _), DONE.out] at q
              rw [hme, q]
              omega
            rw [hfin]
            clear hfin hme
            go_wp2_with fail
            go_ret
            exact ⟨rfl, bstep BT.out BW.out⟩
      · have q1 : (y != (0 : Int)) = true := by simpa using hy
        have q2 : (y == (0 : Int)) = false := by simpa using hy
        have NIL : tv = .slice none 0 0 := by
          rcases T2.out with ⟨_, c, _, _⟩ | ⟨_, k, _, _, hs, c, _, _⟩ | ⟨_, hz, hr, _, c⟩
          · exact c
          · exact c
          · exact absurd c hy
        subst NIL
        clear hy
        go_wp2_with fail
        go_ret
        exact ⟨rfl, BW.out⟩
end Go.Proofs.YtjobdfgcgnpppaaDoor
