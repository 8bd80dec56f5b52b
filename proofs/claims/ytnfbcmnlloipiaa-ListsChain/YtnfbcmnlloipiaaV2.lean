/-
  What assayerplain's Small leaves of transactions, plain, and what its stores do to them in memory.
  The walk of assayerplain's Small.
  The library's contract for what strings.Clone calls, at this program: one application of the library's theorem.
  What a table knows of transactions, plain; its three maps in memory.
  lists at a table that nobody made: nil, or a plain one.
  What the finds say of an empty read.
  What fork says of an empty read.
  The anomalies of a look at one empty read: none.
-/
import Derived.Test.YtnfbcmnlloipiaaV1
import Derived.RegionTactic
import Derived.Shelf.Strconv.Clone
import Derived.Shelf.LaysM
import Derived.Test.YtnfbcmnlloipiaaProg
import Derived.DeepKeys5
import Derived.WideKeyEntry
import Derived.Lib.SliceRun
import Derived.Lib.Walk
import Derived.Deep.AppendLies
import Derived.Deep.RegionHeld3
import Derived.Deep.Cut
import Derived.Deep.RegionLaw
import Derived.Deep.RegionWith
import Derived.Deep.DrawnRows
import Derived.Deep.QuietTactic
import Derived.BigQuiet
import Derived.Lib.SmallJoins
import Derived.WalkSpells
import Derived.Outline
import Derived.MapKept
namespace Go.Proofs.Ytnfbcmnlloipiaa.Tx
set_option linter.unusedVariables false
set_option linter.unusedSimpArgs false
open Go.RowKit Go.Lib

def cutOp (o : MOp) : MOp := (o.kind, o.key, o.value, o.list.take 40, o.has, o.nl)
def withOps (t : MTxn) (l : List MOp) : MTxn := (t.proc, t.state, t.since, t.till, l)
def cutTxn (t : MTxn) : MTxn := withOps t ((t.ops.take 10).map cutOp)
def smallL (l : List MTxn) : List MTxn := (l.take 40).map cutTxn
/-- The operations of which the first k have been cut. -/
def partL (l : List MOp) (k : Nat) : List MOp := (l.take k).map cutOp ++ l.drop k
theorem partL_zero (l : List MOp) : partL l 0 = l := by simp [partL]
theorem partL_all (l : List MOp) (k : Nat) (h : l.length ≤ k) : partL l k = l.map cutOp := by simp [partL, List.take_of_length_le h, List.drop_of_length_le h]
theorem partL_len (l : List MOp) (k : Nat) : (partL l k).length = l.length := by simp [partL]; omega
theorem partL_at (l : List MOp) (k : Nat) (h : k < l.length) : (partL l k).getD k default = l.getD k default := by
  have e : ((l.take k).map cutOp).length = k := by simp; omega
  simp only [partL, List.getD]
  rw [List.getElem?_append_right (by omega), e]
  simp
theorem partL_succ (l : List MOp) (k : Nat) (h : k < l.length) : partL l (k + 1) = (partL l k).set k (cutOp (l.getD k default)) := by
  have e : ((l.take k).map cutOp).length = k := by simp; omega
  unfold partL
  rw [List.set_append_right _ _ (by omega), e, Nat.sub_self, List.drop_eq_getElem_cons h, List.set_cons_zero, List.take_succ_eq_append_getElem h, List.map_append, List.append_assoc]
  simp [List.getD, h]

/-- The cells of a world hang on its heap alone. -/
theorem cell_of_heap {w w' : World} (h : w'.heap = w.heap) (a : Addr) : w'.cell? a = w.cell? a := World.cell?_of_block (w := w) (by rw [h])
theorem frozen_of_heap {w w' : World} (h : w'.heap = w.heap) (a : Addr) : w'.frozen? a = w.frozen? a := by
  unfold World.frozen?
  simp only [h]
theorem OpsOwn.take {S : Nat → Prop} {w : World} {ao : Option Addr} {c n m : Nat} {l : List MOp} (h : OpsOwn S w (.slice ao n c) l) (hm : m = min n 10) : OpsOwn S w (.slice ao m c) (l.take 10) := by
  obtain ⟨ao', c', hv, hl, hc⟩ := h
  simp only [Value.slice.injEq] at hv
  obtain ⟨rfl, rfl, rfl⟩ := hv
  have el : (l.take 10).length = m := by rw [List.length_take, hm]; omega
  refine ⟨ao, c, by rw [el], ⟨by omega, by omega⟩, fun h0 => ?_⟩
  obtain ⟨b, ha, hS, hf, hj⟩ := hc (by omega)
  refine ⟨b, ha, hS, hf, fun j hjl => ?_⟩
  obtain ⟨cs, h1, h2, h3⟩ := hj j (by omega)
  refine ⟨cs, h1, ?_, h3⟩
  have e : (l.take 10).getD j default = l.getD j default := by
    simp only [List.getD]
    rw [List.getElem?_take_of_lt (by omega)]
  rw [e]
  exact h2

theorem setD {l : List MOp} (k j : Nat) (x : MOp) (hk : k < l.length) : (l.set k x).getD j default = if j = k then x else l.getD j default := by
  simp only [List.getD, List.getElem?_set]
  by_cases h : k = j
  · subst h; simp [hk]
  · rw [if_neg h, if_neg (fun e => h e.symm)]

/-- One list of an operation is cut. -/
theorem OpsOwn.cut {S : Nat → Prop} {w : World} {ov : Value} {l : List MOp} (h : OpsOwn S w ov l) (k : Nat) (hk : k < l.length) :
    ∃ bo c al cl, ov = .slice (some ⟨bo, 0, none⟩) l.length c ∧ S bo ∧ l.length ≤ c ∧ w.cell? ⟨bo, k * 6 + 3, none⟩ = some (.slice al (l.getD k default).list.length cl) ∧ (l.getD k default).list.length ≤ cl ∧ (l.getD k default).list.length * 8 ≤ 140737488355328 ∧ w.frozen? ⟨bo, k * 6 + 3, none⟩ = false ∧
      ∀ w' m, m = min (l.getD k default).list.length 40 → w'.heap = (w.setCell ⟨bo, k * 6 + 3, none⟩ (.slice al m cl)).heap → OpsOwn S w' ov (l.set k (cutOp (l.getD k default))) := by
  obtain ⟨ao, c, hv, hl, hc⟩ := h
  obtain ⟨bo, ha, hS, hf, hj⟩ := hc (by omega)
  subst ha
  obtain ⟨cs, h1, ⟨lv, h2, h4⟩, h3⟩ := hj k hk
  obtain ⟨al, cl, rfl, hll, hlc⟩ := h4
  subst h2
  refine ⟨bo, c, al, cl, hv, hS, hl.2, h3 3 _ rfl, hll.2, hll.1, hf _, fun w' m hm hw => ?_⟩
  have hblk : ∀ x, x ≠ bo → w'.heap[x]? = w.heap[x]? := fun x hx => by rw [hw]; exact Below.heap_setCell _ _ _ _ hx
  have hsz : ∀ x, w'.frozen? ⟨bo, x, none⟩ = false := fun x => by rw [frozen_of_heap hw, World.frozen?_setCell]; exact hf x
  refine ⟨some ⟨bo, 0, none⟩, c, by rw [hv]; simp, by simpa using hl, fun h0 => ⟨bo, rfl, hS, hsz, fun j hjl => ?_⟩⟩
  simp at hjl
  have hother : ∀ i, ¬ (j * 6 + i = k * 6 + 3) → w'.cell? ⟨bo, j * 6 + i, none⟩ = w.cell? ⟨bo, j * 6 + i, none⟩ := fun i hne => by
    exact (cell_of_heap hw _).trans (World.cell?_setCell_other _ _ _ _ (fun e => hne (show k * 6 + 3 = j * 6 + i from congrArg Addr.off e).symm))
  rw [setD k j _ hk]
  by_cases hjk : j = k
  · subst hjk
    rw [if_pos rfl]
    have ec : (cutOp (l.getD j default)).list.length = m := by
      show (List.take 40 (l.getD j default).list).length = m
      rw [List.length_take, hm]
      omega
    refine ⟨[.int .i64 (l.getD j default).kind, .string (l.getD j default).key, .int .i64 (l.getD j default).value, .slice al m cl, .bool (l.getD j default).has, .bool (l.getD j default).nl], rfl, ⟨_, rfl, al, cl, ?_, ⟨?_, ?_⟩, fun h0 => ?_⟩, fun i u hi => ?_⟩
    · rw [ec]
    · rw [ec]; omega
    · rw [ec]; omega
    · rw [ec] at h0
      obtain ⟨b2, off, hb2, hS2, hcc⟩ := hlc (by show 0 < (l.getD j default).list.length; omega)
      refine ⟨b2, off, hb2, ⟨hS2.1, hS2.2.keep (hblk b2 hS2.1.2)⟩, fun q hq => ?_⟩
      rw [ec] at hq
      have e : ((l.getD j default).list.take 40).getD q default = (l.getD j default).list.getD q default := by
        simp only [List.getD]
        rw [List.getElem?_take_of_lt (by omega)]
      show w'.cell? _ = some (.int .i64 (((l.getD j default).list.take 40).getD q default))
      rw [e, World.cell?_of_block (w := w) (hblk b2 hS2.1.2)]
      exact hcc q (by show q < (l.getD j default).list.length; omega)
    · by_cases hi3 : i = 3
      · subst hi3
        simp at hi
        subst hi
        rw [cell_of_heap hw]
        exact World.cell?_setCell_same _ _ _ (h3 3 _ rfl)
      · rw [hother i (by omega)]
        apply h3 i u
        match i, hi3 with
        | 0, _ => exact hi
        | 1, _ => exact hi
        | 2, _ => exact hi
        | 4, _ => exact hi
        | 5, _ => exact hi
        | n + 6, _ => simp at hi
  · rw [if_neg hjk]
    obtain ⟨cs, g1, g2, g3⟩ := hj j hjl
    refine ⟨cs, g1, opSoft_keep _ _ _ _ _ _ g2 (fun x hx _ => hblk x hx.2) (fun _ _ h => h), fun i u hi => ?_⟩
    have hi6 : i < 6 := by rw [← g1]; exact (List.getElem?_eq_some_iff.1 hi).1
    rw [hother i (by omega)]
    exact g3 i u hi

section
variable {B b : Nat} {D : Nat → Nat → Prop} {w w' : World} {n : Nat} {f : Nat → MTxn}
theorem TX.heap (h : TX B b D w n f) (hw : w'.heap = w.heap) : TX B b D w' n f :=
  ⟨h.le, fun o => (frozen_of_heap hw _).trans (h.fz o), h.far, h.dis, fun j hj => by
    obtain ⟨ov, h1, h2⟩ := h.row j hj
    exact ⟨ov, fun i u hi => (cell_of_heap hw _).trans (h1 i u hi), h2.keep (fun _ _ _ => by rw [hw]) (fun _ _ h => h)⟩⟩
theorem TX.congr {f' : Nat → MTxn} (h : TX B b D w n f) (he : ∀ j, j < n → f' j = f j) : TX B b D w n f' :=
  ⟨h.le, h.fz, h.far, h.dis, fun j hj => by rw [he j hj]; exact h.row j hj⟩
/-- The row of operations of one transaction is cut. -/
theorem TX.cutOps (h : TX B b D w n f) (i : Nat) (hi : i < n) :
    ∃ ao c, w.cell? ⟨b, i * 5 + 4, none⟩ = some (.slice ao (f i).ops.length c) ∧ (f i).ops.length ≤ c ∧ (f i).ops.length * 64 ≤ 140737488355328 ∧
      ∀ w' m, m = min (f i).ops.length 10 → w'.heap = (w.setCell ⟨b, i * 5 + 4, none⟩ (.slice ao m c)).heap → TX B b D w' n (fun j => if j = i then withOps (f i) ((f i).ops.take 10) else f j) := by
  obtain ⟨ov, h1, h2⟩ := h.row i hi
  obtain ⟨ao, c, rfl, hl, _⟩ := id h2
  refine ⟨ao, c, h1 4 _ rfl, hl.2, hl.1, fun w' m hm hw => ?_⟩
  have hblk : ∀ x, x ≠ b → w'.heap[x]? = w.heap[x]? := fun x hx => by rw [hw]; exact Below.heap_setCell _ _ _ _ hx
  refine ⟨h.le, fun o => ?_, h.far, h.dis, fun j hj => ?_⟩
  · rw [frozen_of_heap hw, World.frozen?_setCell]; exact h.fz o
  · have hother : ∀ x, ¬ (j * 5 + x = i * 5 + 4) → w'.cell? ⟨b, j * 5 + x, none⟩ = w.cell? ⟨b, j * 5 + x, none⟩ := fun x hne => by
      exact (cell_of_heap hw _).trans (World.cell?_setCell_other _ _ _ _ (fun e => hne (show i * 5 + 4 = j * 5 + x from congrArg Addr.off e).symm))
    by_cases hji : j = i
    · subst hji
      rw [if_pos rfl]
      refine ⟨.slice ao m c, fun x u hx => ?_, (h2.take hm).keep (fun x hx _ => hblk x (h.far j x hx).2) (fun _ _ h => h)⟩
      by_cases h4 : x = 4
      · subst h4
        simp at hx
        subst hx
        rw [cell_of_heap hw]
        exact World.cell?_setCell_same _ _ _ (h1 4 _ rfl)
      · rw [hother x (by omega)]
        apply h1 x u
        match x, h4 with
        | 0, _ => exact hx
        | 1, _ => exact hx
        | 2, _ => exact hx
        | 3, _ => exact hx
        | n + 5, _ => simp at hx
    · rw [if_neg hji]
      obtain ⟨ov', g1, g2⟩ := h.row j hj
      refine ⟨ov', fun x u hx => ?_, g2.keep (fun x hx _ => hblk x (h.far j x hx).2) (fun _ _ h => h)⟩
      have hx5 : x < 5 := by have := (List.getElem?_eq_some_iff.1 hx).1; simpa using this
      rw [hother x (by omega)]
      exact g1 x u hx
/-- The list of one operation of one transaction is cut. -/
theorem TX.cutList (h : TX B b D w n f) (i k : Nat) (hi : i < n) (hk : k < (f i).ops.length) :
    ∃ bo c al cl, w.cell? ⟨b, i * 5 + 4, none⟩ = some (.slice (some ⟨bo, 0, none⟩) (f i).ops.length c) ∧ (f i).ops.length ≤ c ∧ w.cell? ⟨bo, k * 6 + 3, none⟩ = some (.slice al ((f i).ops.getD k default).list.length cl) ∧ ((f i).ops.getD k default).list.length ≤ cl ∧ ((f i).ops.getD k default).list.length * 8 ≤ 140737488355328 ∧ w.frozen? ⟨bo, k * 6 + 3, none⟩ = false ∧ B ≤ bo ∧ bo ≠ b ∧
      ∀ w' m, m = min ((f i).ops.getD k default).list.length 40 → w'.heap = (w.setCell ⟨bo, k * 6 + 3, none⟩ (.slice al m cl)).heap → TX B b D w' n (fun j => if j = i then withOps (f i) ((f i).ops.set k (cutOp ((f i).ops.getD k default))) else f j) := by
  obtain ⟨ov, h1, h2⟩ := h.row i hi
  obtain ⟨bo, c, al, cl, rfl, hS, g0, g1, g2, g3, g4, g5⟩ := h2.cut k hk
  have hfb := h.far i bo hS
  refine ⟨bo, c, al, cl, h1 4 _ rfl, g0, g1, g2, g3, g4, hfb.1, hfb.2, fun w' m hm hw => ?_⟩
  have hblk : ∀ x, x ≠ bo → w'.heap[x]? = w.heap[x]? := fun x hx => by rw [hw]; exact Below.heap_setCell _ _ _ _ hx
  refine ⟨h.le, fun o => ?_, h.far, h.dis, fun j hj => ?_⟩
  · rw [frozen_of_heap hw, World.frozen?_setCell]; exact h.fz o
  · skip
    by_cases hji : j = i
    · subst hji
      rw [if_pos rfl]
      exact ⟨_, fun x u hx => (World.cell?_of_block (w := w) (hblk b (fun e => hfb.2 e.symm))).trans (h1 x u hx), g5 w' m hm hw⟩
    · rw [if_neg hji]
      obtain ⟨ov', q1, q2⟩ := h.row j hj
      exact ⟨ov', fun x u hx => (World.cell?_of_block (w := w) (hblk b (fun e => hfb.2 e.symm))).trans (q1 x u hx), q2.keep (fun x hx _ => hblk x (fun e => hji (h.dis j i x hx (by rw [e]; exact hS)))) (fun _ _ h => h)⟩
end
end Go.Proofs.Ytnfbcmnlloipiaa.Tx
namespace Go.Proofs.Ytnfbcmnlloipiaa.Tx
set_option linter.unusedVariables false
set_option linter.unusedSimpArgs false
open Go.RowKit Go.Lib

def cutTo (f : Nat → MTxn) (k : Nat) : Nat → MTxn := fun j => if j < k then cutTxn (f j) else f j
/-- Of transaction k the first q operations have been cut. -/
def cutAt (f : Nat → MTxn) (k q : Nat) : Nat → MTxn := fun j => if j < k then cutTxn (f j) else if j = k then withOps (f k) (partL ((f k).ops.take 10) q) else f j
theorem cutTo_at (f : Nat → MTxn) (k : Nat) : cutTo f k k = f k := by simp [cutTo]
theorem cutAt_at (f : Nat → MTxn) (k q : Nat) : cutAt f k q k = withOps (f k) (partL ((f k).ops.take 10) q) := by simp [cutAt]

set_option maxHeartbeats 4000000 in
set_option maxRecDepth 100000 in
theorem small_walk {S : Nat → Prop} (a1 : Option Addr) (c1 n : Nat) (xs : List MTxn) (w : World) (hx : xs.length = n) (hbytes : n * 56 ≤ 140737488355328) (hcap : n ≤ c1)
    (h1 : RowCells 5 (TxnRow S w) w a1 xs n) :
    Calls Try.prog 9 #[.slice a1 n c1] w fun e w' => ∃ v', e = .returned v' ∧ TxnsOwn w.heap.size w' v' (smallL xs) ∧ Below w.heap.size w w' := by
  obtain ⟨m, hm⟩ : ∃ m, m = min n 40 := ⟨_, rfl⟩
  have hmi : min (n : Int) 40 = (m : Int) := by omega
  have HM := hid hm
  have hmn : m ≤ n := by omega
  have hm40 : m ≤ 40 := by omega
  have hmc : (m : Int) ≤ (c1 : Int) := by omega
  have HX : Hid ((xs.take 40).length = m) := by show _ = _; rw [List.length_take, hx, hm]; omega
  have H1 : Hid (RowCells 5 (TxnRow S w) w a1 (xs.take 40) m) := fun j hj => by
    obtain ⟨b, o, cs, r1, r2, r3, r4, r5⟩ := h1 j (by omega)
    refine ⟨b, o, cs, r1, r2, r3, ?_, r5⟩
    have e : (xs.take 40).getD j default = xs.getD j default := by
      simp only [List.getD]
      rw [List.getElem?_take_of_lt (by omega)]
    rw [e]
    exact r4
  have HB : Hid (m * 56 ≤ 140737488355328) := by show _ ≤ _; omega
  clear hm h1 hbytes hcap hx
  go_enter Try.func9, Try.ntmps9
  go_wp2_with fail
  go_at_call 29
  refine (txns_walk (S := S) a1 c1 m (xs.take 40) w HX.out HB.out H1.out).mono ?_
  rintro e w1 ⟨v1, rfl, ⟨ao, c, hv, hl, hc⟩, hb⟩
  rw [HX.out] at hv hl hc
  subst hv
  have B1 := hid hb
  have HC := hid hl
  obtain ⟨b, D, hao⟩ : ∃ b D, 0 < m → ao = some ⟨b, 0, none⟩ ∧ TX w.heap.size b D w1 m (fun j => (xs.take 40).getD j default) := by
    by_cases h0 : 0 < m
    · obtain ⟨b, D, h2⟩ := hc h0
      exact ⟨b, D, fun _ => h2⟩
    · exact ⟨0, fun _ _ => False, fun h => absurd h h0⟩
  obtain ⟨f, hf⟩ : ∃ f : Nat → MTxn, f = (fun j => (xs.take 40).getD j default) := ⟨_, rfl⟩
  rw [← hf] at hao
  have HF := hid hf
  have AO := hid hao
  clear hb hl hc H1 hao hf hmi hmc
  go_wp2_with fail
  go_loopg [4, 15] m (fun g _ i wr => ∃ k : Nat, k ≤ m ∧ m - k ≤ g ∧ i = .int .i64 k ∧ Aside (Below w.heap.size w wr ∧ (0 < m → TX w.heap.size b D wr m (cutTo f k))))
  case atStart => exact ⟨0, Nat.zero_le _, by omega, rfl, (⟨B1.out, fun h => (AO.out h).2.congr (fun j hj => by simp [cutTo])⟩ : _ ∧ _)⟩
  case round =>
    obtain ⟨k, hk, hg, rfl, T⟩ := hrel
    by_cases hlt : k < m
    · have hlti : (k : Int) < (m : Int) := by omega
      obtain ⟨rfl, -⟩ := AO.out (by omega)
      obtain ⟨ao2, c2, q1, q2, q3, q4⟩ := (T.out.2 (by omega)).cutOps k hlt
      rw [cutTo_at] at q1 q2 q3 q4
      obtain ⟨N, hN⟩ : ∃ N, (f k).ops.length = N := ⟨_, rfl⟩
      rw [hN] at q1 q2 q3
      have HN := hid hN
      obtain ⟨M, hM⟩ : ∃ M, M = min N 10 := ⟨_, rfl⟩
      have hMi : min (N : Int) 10 = (M : Int) := by omega
      have hMc : (M : Int) ≤ (c2 : Int) := by omega
      have Q4 := hid (fun w' => q4 w' M (by rw [hN, hM]))
      have zf := (T.out.2 (by omega)).fz (k * 5 + 4)
      clear q4 hN hM AO HF
      go_wp2_with fail
      go_region
      have T2 : Hid (TX w.heap.size b D (wr.setCell ⟨b, k * 5 + 4, none⟩ (.slice ao2 M c2)).drew m (cutAt f k 0)) := by
        show TX _ _ _ _ _ _
        refine (Q4.out (wr.setCell ⟨b, k * 5 + 4, none⟩ (.slice ao2 M c2)).drew rfl).congr (fun j hj => ?_)
        simp only [cutAt, cutTo, partL_zero]
        by_cases h1 : j < k
        · rw [if_pos h1, if_neg (by omega), if_pos h1]
        · by_cases h2 : j = k
          · rw [if_neg h1, if_pos h2, if_pos h2]
          · rw [if_neg h1, if_neg h2, if_neg h2, if_neg h1]
      have B2 : Hid (Below w.heap.size w (wr.setCell ⟨b, k * 5 + 4, none⟩ (.slice ao2 M c2)).drew) := (T.out.1.setCell (T.out.2 (by omega)).le _).drew
      clear Q4 T zf
      have k4 : ((wr.setCell ⟨b, k * 5 + 4, none⟩ (.slice ao2 M c2)).drew).cell? ⟨b, k * 5 + 4, none⟩ = some (.slice ao2 M c2) := World.cell?_setCell_same wr _ _ q1
      clear q1
      generalize (wr.setCell ⟨b, k * 5 + 4, none⟩ (.slice ao2 M c2)).drew = w2 at *
      have LN : Hid (((f k).ops.take 10).length = M) := by
        show _ = _
        rw [List.length_take, HN.out]
        omega
      go_wp2_with fail
      go_loopg [5, 41] M (fun g _ i wr => ∃ q : Nat, q ≤ M ∧ M - q ≤ g ∧ i = .int .i64 q ∧ wr.cell? ⟨b, k * 5 + 4, none⟩ = some (.slice ao2 M c2) ∧ Aside (Below w.heap.size w wr ∧ TX w.heap.size b D wr m (cutAt f k q)))
      case atStart => exact ⟨0, Nat.zero_le _, by omega, rfl, k4, (⟨B2.out, T2.out⟩ : _ ∧ _)⟩
      case round =>
        obtain ⟨q, hq, hg2, rfl, k5, T3⟩ := hrel
        by_cases hqt : q < M
        · have hqti : (q : Int) < (M : Int) := by omega
          have ea : (cutAt f k q k).ops = partL ((f k).ops.take 10) q := by rw [cutAt_at]; rfl
          obtain ⟨bo, c3, al, cl, p1, p2, p3, p4, p5, p6, p7, p9, p8⟩ := T3.out.2.cutList k q hlt (by rw [ea, partL_len, LN.out]; exact hqt)
          rw [k5] at p1
          simp only [ea, partL_len, LN.out] at p1
          have ex : (partL ((f k).ops.take 10) q).getD q default = ((f k).ops.take 10).getD q default := partL_at _ _ (by rw [LN.out]; exact hqt)
          rw [ea, ex] at p3 p4 p5 p8
          simp only [Option.some.injEq, Value.slice.injEq, true_and] at p1
          obtain ⟨rfl, rfl⟩ := p1
          obtain ⟨L, hL⟩ : ∃ L, (((f k).ops.take 10).getD q default).list.length = L := ⟨_, rfl⟩
          rw [hL] at p3 p4 p5 p8
          obtain ⟨M3, hM3⟩ : ∃ M3, M3 = min L 40 := ⟨_, rfl⟩
          have hM3i : min (L : Int) 40 = (M3 : Int) := by omega
          have hM3c : (M3 : Int) ≤ (cl : Int) := by omega
          have T5 : Hid (TX w.heap.size b D (wr.setCell ⟨bo, q * 6 + 3, none⟩ (.slice al M3 cl)).drew m (cutAt f k (q + 1))) := by
            show TX _ _ _ _ _ _
            refine (p8 (wr.setCell ⟨bo, q * 6 + 3, none⟩ (.slice al M3 cl)).drew M3 hM3 rfl).congr (fun j hj => ?_)
            simp only [cutAt]
            by_cases h1 : j < k
            · rw [if_pos h1, if_neg (by omega), if_pos h1]
            · by_cases h2 : j = k
              · rw [if_neg h1, if_pos h2, if_pos h2, partL_succ _ _ (by rw [LN.out]; exact hqt)]
                simp [withOps]
              · rw [if_neg h1, if_neg h2, if_neg h2, if_neg h1, if_neg h2]
          have B5 : Hid (Below w.heap.size w (wr.setCell ⟨bo, q * 6 + 3, none⟩ (.slice al M3 cl)).drew) := (T3.out.1.setCell p7 _).drew
          have k6 : Hid (((wr.setCell ⟨bo, q * 6 + 3, none⟩ (.slice al M3 cl)).drew).cell? ⟨b, k * 5 + 4, none⟩ = some (.slice (some ⟨bo, 0, none⟩) M c2)) := (World.cell?_setCell_other wr _ _ _ (fun e => p9 (congrArg Addr.block e))).trans k5
          clear p8 p9 hL hM3 ea ex T3
          go_wp2_with fail
          go_region
          go_wp2_with fail
          go_roundg (M - (q + 1))
          case measure => omega
          case rel => exact ⟨q + 1, by omega, by omega, by go_num, k6.out, (⟨B5.out, T5.out⟩ : _ ∧ _)⟩
        · have hqti : ¬ (q : Int) < (M : Int) := by omega
          have T4 : Hid (TX w.heap.size b D wr m (cutTo f (k + 1))) := by
            refine T3.out.2.congr (fun j hj => ?_)
            simp only [cutAt, cutTo]
            by_cases h1 : j < k
            · rw [if_pos h1, if_pos (by omega)]
            · by_cases h2 : j = k
              · rw [if_neg h1, if_pos h2, if_pos (by omega), h2, partL_all _ _ (by rw [LN.out]; omega)]
                rfl
              · rw [if_neg h1, if_neg h2, if_neg (by omega)]
          go_wp2_with fail
          go_roundg (m - (k + 1))
          case measure => omega
          case rel => exact ⟨k + 1, by omega, by omega, by go_num, (⟨T3.out.1, fun _ => T4.out⟩ : _ ∧ _)⟩
    · have hlti : ¬ (k : Int) < (m : Int) := by omega
      go_wp2_with fail
      go_ret
      have hkm : k = m := by omega
      subst hkm
      have el : (smallL xs).length = k := by unfold smallL; rw [List.length_map]; exact HX.out
      refine ⟨_, rfl, ⟨ao, c, congrArg (fun x => Value.slice ao x c) el.symm, by rw [el]; exact HC.out, fun h0 => ?_⟩, T.out.1⟩
      rw [el] at h0
      refine ⟨b, D, (AO.out h0).1, ?_⟩
      rw [el]
      refine (T.out.2 h0).congr (fun j hj => ?_)
      rw [cutTo, if_pos hj, HF.out]
      have hj2 : j < (xs.take 40).length := by rw [HX.out]; exact hj
      unfold smallL
      simp only [List.getD, List.getElem?_map]
      rw [List.getElem?_eq_getElem hj2]
      rfl
/-- Small hands the first transactions back, cut, in new memory. -/
theorem small_any {S : Nat → Prop} (v : Value) (l : List MTxn) (w : World) (h : TxnsIn S w v l) :
    Calls Try.prog 9 #[v] w fun e w' => ∃ v', e = .returned v' ∧ TxnsOwn w.heap.size w' v' (smallL l) ∧ Below w.heap.size w w' := by
  obtain ⟨a1, c1, rfl, l1, k1⟩ := RowsIn.cells h (by omega)
  exact small_walk a1 c1 l.length l w rfl l1.1 l1.2 k1
end Go.Proofs.Ytnfbcmnlloipiaa.Tx
namespace Go.Proofs
open Go.Shelf
def Try.laysM316_ren : Go.Shelf.Ren := ⟨fun | 316 => 79 | n => n, fun | 9 => 9 | 3 => 3 | 4 => 4 | 37 => 140 | 0 => 0 | 127 => 141 | 5 => 5 | n => n, fun | n => n⟩
theorem Try.laysM316 : Go.Proofs.LaysM.n316 Try.prog Try.laysM316_ren := {
  mixed := by kernel_rfl
  f316 := Try.func79.trans (congrArg some (by kernel_rfl))
  t0 := Try.underlying0
  a0 := Try.isAgg0
  z0 := Try.sizeOf0
  v0 := Try.zeroValue0
  t3 := Try.underlying3
  a3 := Try.isAgg3
  z3 := Try.sizeOf3
  v3 := Try.zeroValue3
  t4 := Try.underlying4
  a4 := Try.isAgg4
  z4 := Try.sizeOf4
  v4 := Try.zeroValue4
  t9 := Try.underlying9
  a9 := Try.isAgg9
  z9 := Try.sizeOf9
  v9 := Try.zeroValue9
  t37 := Try.underlying140
  a37 := Try.isAgg140
  z37 := Try.sizeOf140
  v37 := Try.zeroValue140
  t127 := Try.underlying141
  a127 := Try.isAgg141
  z127 := Try.sizeOf141
  v127 := Try.zeroValue141
  t5 := Try.underlying5
  a5 := Try.isAgg5
  z5 := Try.sizeOf5
  v5 := Try.zeroValue5
  i0 := by kernel_rfl
  i3 := by kernel_rfl
  i4 := by kernel_rfl
  i5 := by kernel_rfl
  i9 := by kernel_rfl
  i37 := by kernel_rfl
  i127 := by kernel_rfl }
open Go.RowKit in
/-- What strings.Clone calls hands back the same bytes. -/
theorem Try.stringslite_Clone (s : ByteArray) (w : World) (hlim : s.size ≤ 281474976710656) :
    Calls Try.prog 79 #[.string s] w fun e w' => e = .returned (.string s) ∧ Below w.heap.size w w' := Any.stringslite_Clone Try.laysM316 s w hlim
end Go.Proofs
namespace Go.Proofs.Ytnfbcmnlloipiaa
set_option linter.unusedVariables false
set_option linter.unusedSimpArgs false
open Go.RowKit Go.Lib Go.Maps Go.ChangeMaps Go.MapKept Go.WideElems
open Tx (MTxn)

theorem below_box (w : World) (o : Obj) : Below w.heap.size w (w.alloc o) := (Below.refl _ _).alloc (Nat.le_refl _) _
theorem blt {w : World} {b : Nat} {o : Obj} (h : w.heap[b]? = some o) : b < w.heap.size := (Array.getElem?_eq_some_iff.1 h).1
/-- Blocks outside P stay. -/
structure Gro (P : Nat → Prop) (w w' : World) : Prop where
  os : w'.os = w.os
  tape : w'.tape = w.tape
  output : w'.output = w.output
  size : w.heap.size ≤ w'.heap.size
  block : ∀ b, b < w.heap.size → ¬ P b → w'.heap[b]? = w.heap[b]?
theorem Gro.refl (P : Nat → Prop) (w : World) : Gro P w w := ⟨rfl, rfl, rfl, Nat.le_refl _, fun _ _ _ => rfl⟩
/-- P, and all blocks that were laid since. -/
def wide (P : Nat → Prop) (w w' : World) (b : Nat) : Prop := P b ∨ (w.heap.size ≤ b ∧ b < w'.heap.size)
theorem Gro.trans {P : Nat → Prop} {a b c : World} (h : Gro P a b) (k : Gro (wide P a b) b c) : Gro P a c :=
  ⟨k.os.trans h.os, k.tape.trans h.tape, k.output.trans h.output, Nat.le_trans h.size k.size, fun i hi hn => (k.block i (Nat.lt_of_lt_of_le hi h.size) (fun c => by
    rcases c with c | c
    · exact hn c
    · omega)).trans (h.block i hi hn)⟩
theorem Gro.of_below {P : Nat → Prop} {a b : World} (h : Below a.heap.size a b) : Gro P a b := ⟨h.os, h.tape, h.output, h.size, fun i hi _ => h.block i hi⟩
theorem Gro.of_grown {P : Nat → Prop} {a b : World} {r : Nat} (h : a.grownBy b (some r)) (hr : P r) : Gro P a b := ⟨h.os, h.tape, h.output, h.size, fun i hi hn => h.block i hi (fun e => by
  injection e with e
  exact hn (e ▸ hr))⟩
theorem Gro.of_grownO {P : Nat → Prop} {a b : World} {r : Option Nat} (h : a.grownBy b r) (hr : ∀ g, r = some g → P g) : Gro P a b := ⟨h.os, h.tape, h.output, h.size, fun i hi hn => h.block i hi (fun e => hn (hr i e.symm))⟩
theorem Gro.mono {P P' : Nat → Prop} {a b : World} (h : Gro P a b) (hp : ∀ i, i < a.heap.size → P i → P' i) : Gro P' a b := ⟨h.os, h.tape, h.output, h.size, fun i hi hn => h.block i hi (fun c => hn (hp i hi c))⟩
theorem Gro.below {P : Nat → Prop} {a b : World} {B : Nat} (h : Gro P a b) (hB : B ≤ a.heap.size) (hp : ∀ i, i < B → ¬ P i) : Below B a b := ⟨h.os, h.tape, h.output, h.size, fun i hi => h.block i (by omega) (hp i hi)⟩

theorem own_same {B : Nat} {w w' : World} {e : TypeId} {z n : Nat} {v : Value} {xs : List Value} (h : w.ownsRow B e z v n xs) (hs : ∀ g, v.ownBlock = some g → w'.heap[g]? = w.heap[g]?) : w'.ownsRow B e z v n xs := by
  refine ⟨h.1, ?_⟩
  rcases h.2 with h1 | ⟨g, cap, cur, hv, hg, hh, hr⟩
  · exact .inl h1
  · exact .inr ⟨g, cap, cur, hv, hg, (hs g (by rw [hv]; rfl)).trans hh, hr⟩
theorem own_slice {B : Nat} {w : World} {e : TypeId} {z n : Nat} {v : Value} {xs : List Value} (h : w.ownsRow B e z v n xs) : ∃ a c, v = .slice a n c := by
  rcases h.2 with ⟨hv, hn⟩ | ⟨g, cap, cur, hv, _⟩
  · exact ⟨none, 0, by rw [hv, hn]⟩
  · exact ⟨_, cap, hv⟩
theorem own_block {B : Nat} {w : World} {e : TypeId} {z n g : Nat} {v : Value} {xs : List Value} (h : w.ownsRow B e z v n xs) (hg : v.ownBlock = some g) : B ≤ g ∧ g < w.heap.size ∧ ∃ cs, w.heap[g]? = some (.cells cs e) := by
  rcases h.2 with ⟨hv, hn⟩ | ⟨g', cap, cur, hv, hB, hh, hr⟩
  · rw [hv] at hg
    cases hg
  · rw [hv] at hg
    have : g' = g := by simpa [Value.ownBlock] using hg
    subst this
    exact ⟨hB, blt hh, _, hh⟩
theorem alloc_at (w : World) (o : Obj) (b : Nat) : (w.alloc o).heap[b]? = if b = w.heap.size then some o else w.heap[b]? := by
  show (w.heap.push o)[b]? = _
  rw [Array.getElem?_push]
theorem alloc_size (w : World) (o : Obj) : (w.alloc o).heap.size = w.heap.size + 1 := by
  show (w.heap.push o).size = _
  rw [Array.size_push]
theorem set_ne {w : World} {p : Addr} {v : Value} {g : Nat} (h : g ≠ p.block) : (w.setCell p v).heap[g]? = w.heap[g]? := by
  unfold World.setCell
  simp [Array.getElem?_modify]
  intro c
  exact absurd c.symm h

/-! Plain. -/
/-- What an operation is of: 1 of a list, 3 of a register, 0 of nothing. -/
def thing (k : Int) : Int := if k = 1 ∨ k = 2 then 1 else if k = 3 ∨ k = 4 then 3 else 0
def isW (k : Int) : Bool := k == 1 || k == 3
theorem isW_thing {k : Int} (h : isW k = true) : thing k ≠ 0 := by
  unfold isW at h
  unfold thing
  simp only [Bool.or_eq_true, beq_iff_eq] at h
  rcases h with rfl | rfl <;> decide
/-- An operation, with its transaction and its place in it. -/
abbrev MN := Nat × Nat × MOp
/-- A key's kind. -/
def kindN (N : List MN) (s : ByteArray) : Int := ((N.find? (fun x => decide (x.2.2.key = s ∧ thing x.2.2.kind ≠ 0))).map (fun x => thing x.2.2.kind)).getD 0
theorem kind_snoc (N : List MN) (x : MN) (s : ByteArray) : kindN (N ++ [x]) s = if kindN N s = 0 then (if x.2.2.key = s then thing x.2.2.kind else 0) else kindN N s := by
  unfold kindN
  rw [List.find?_append]
  cases h : N.find? (fun x => decide (x.2.2.key = s ∧ thing x.2.2.kind ≠ 0)) with
  | none =>
    by_cases h1 : x.2.2.key = s
    · by_cases h2 : thing x.2.2.kind = 0 <;> simp [List.find?_cons, h1, h2]
    · simp [List.find?_cons, h1]
  | some y =>
    have hy := List.find?_some h
    have hy2 : thing y.2.2.kind ≠ 0 := (of_decide_eq_true hy).2
    simp [hy2]
/-- Is it a write of a value to a key. -/
def hitW (s : ByteArray) (v : Int) (x : MN) : Bool := isW x.2.2.kind && decide (x.2.2.key = s) && decide (x.2.2.value = v)
/-- Who wrote a value. -/
def writersN (N : List MN) (s : ByteArray) (v : Int) : List (Nat × Nat) := (N.filter (hitW s v)).map (fun x => (x.1, x.2.1))
theorem writers_snoc (N : List MN) (x : MN) (s : ByteArray) (v : Int) : writersN (N ++ [x]) s v = writersN N s v ++ (if hitW s v x then [(x.1, x.2.1)] else []) := by
  unfold writersN
  rw [List.filter_append, List.map_append]
  by_cases h : hitW s v x <;> simp [h]
theorem writers_len (N : List MN) (s : ByteArray) (v : Int) : (writersN N s v).length ≤ N.length := by
  unfold writersN
  rw [List.length_map]
  exact List.length_filter_le _ _
/-- Is it a write of a transaction to a key. -/
def hitL (t : Nat) (s : ByteArray) (x : MN) : Bool := isW x.2.2.kind && decide (x.1 = t) && decide (x.2.2.key = s)
/-- The last one. -/
def lastN (N : List MN) (t : Nat) (s : ByteArray) : Option Nat := ((N.filter (hitL t s)).getLast?).map (fun x => x.2.1)
theorem last_snoc (N : List MN) (x : MN) (t : Nat) (s : ByteArray) : lastN (N ++ [x]) t s = if hitL t s x then some x.2.1 else lastN N t s := by
  unfold lastN
  rw [List.filter_append]
  by_cases h : hitL t s x <;> simp [h]
/-- No value is written twice to a key. -/
def uniqN (N : List MN) : Prop := ∀ s v, (writersN N s v).length ≤ 1
theorem uniq_snoc (N : List MN) (x : MN) : uniqN (N ++ [x]) ↔ uniqN N ∧ (isW x.2.2.kind = true → writersN N x.2.2.key x.2.2.value = []) := by
  constructor
  · intro h
    refine ⟨fun s v => ?_, fun hw => ?_⟩
    · have := h s v
      rw [writers_snoc, List.length_append] at this
      omega
    · have := h x.2.2.key x.2.2.value
      rw [writers_snoc, if_pos (by simp [hitW, hw]), List.length_append] at this
      simp at this
      exact this
  · rintro ⟨h1, h2⟩ s v
    rw [writers_snoc]
    by_cases hh : hitW s v x
    · have hh' := hh
      unfold hitW at hh'
      simp only [Bool.and_eq_true, decide_eq_true_eq] at hh'
      obtain ⟨⟨a, rfl⟩, rfl⟩ := hh'
      rw [h2 a]
      simp [hh]
    · simp [hh]
      exact h1 s v

/-! Keys of the maps. -/
theorem Try.laidOut : laidOutB Try.prog = true := by kernel_rfl
theorem keys9 : Keyed Try.prog 9 := string_keyed Try.underlying9
theorem key9 (s : ByteArray) (hs : s.size ≤ maxLen) : keyOf Try.prog 9 (.string s) = some (.string s.data.toList) := Go.WideMaps.keyOf_string_mk Try.underlying9 hs
theorem lawV : WideMaps.KeyLaw Try.prog 107 := deep_law_gate Try.laidOut (of_decide_eq_true (by kernel_rfl)) (of_decide_eq_true (by kernel_rfl)) (by kernel_rfl) (by kernel_rfl)
theorem keysV : Keyed Try.prog 107 := Keyed.of_law lawV
theorem lawP : WideMaps.KeyLaw Try.prog 114 := deep_law_gate Try.laidOut (of_decide_eq_true (by kernel_rfl)) (of_decide_eq_true (by kernel_rfl)) (by kernel_rfl) (by kernel_rfl)
theorem keysP : Keyed Try.prog 114 := Keyed.of_law lawP
theorem zeroI (w : World) : (zeroValue 3).run Try.prog w = .ok (.int .i64 0) w := by kernel_rfl
theorem zeroW (w : World) : (zeroValue 51).run Try.prog w = .ok (.slice none 0 0) w := by kernel_rfl
theorem Try.c3 : Try.prog.cellsOf 3 = 1 := by kernel_rfl
theorem Try.c9 : Try.prog.cellsOf 9 = 1 := by kernel_rfl
theorem Try.cV : Try.prog.cellsOf 107 = 2 := by kernel_rfl
theorem Try.cP : Try.prog.cellsOf 114 = 2 := by kernel_rfl
theorem Try.ktV : Try.prog.keyType 107 = true := by kernel_rfl
theorem Try.ktP : Try.prog.keyType 114 = true := by kernel_rfl
theorem Try.tys : ∃ m, Try.prog.types.size + 1 = m + 1 + 1 := ⟨Try.prog.types.size - 1, by
  have : 0 < Try.prog.types.size := by decide +kernel
  omega⟩
def verV (s : ByteArray) (v : Int) : Value := .agg #[.string s, .int .i64 v]
def parV (t : Nat) (s : ByteArray) : Value := .agg #[.int .i64 t, .string s]
theorem verV_inj {s s' : ByteArray} {v v' : Int} (h : verV s v = verV s' v') : s = s' ∧ v = v' := by
  unfold verV at h
  simp at h
  exact h
theorem parV_inj {s s' : ByteArray} {t t' : Nat} (h : parV t s = parV t' s') : t = t' ∧ s = s' := by
  unfold parV at h
  simp at h
  exact ⟨by omega, h.2⟩
theorem lits3 (m : Nat) (t : Int) (ht : (Lit.int .i64 t).wf = true) : Try.prog.keyLits (m + 1) 3 [.int .i64 t] = some [.int .i64 t] := by
  unfold Program.keyLits
  rw [Try.underlying3]
  simp [ht]
theorem lits9 (m : Nat) (s : ByteArray) (hs : s.size ≤ maxLen) : Try.prog.keyLits (m + 1) 9 [.string s] = some [.string s.data.toList] := by
  unfold Program.keyLits
  rw [Try.underlying9]
  simp [hs]
theorem key_ver (s : ByteArray) (v : Int) (hv : (Lit.int .i64 v).wf = true) (hs : s.size ≤ maxLen) : ∃ kl, keyOf Try.prog 107 (verV s v) = some kl := by
  unfold keyOf verV
  rw [Try.underlying107]
  simp only [Try.ktV, Bool.true_and]
  have hf : (Value.agg #[.string s, .int .i64 v]).formed Try.prog 107 = true := by
    simp [Value.formed, Try.underlying107, Try.cV]
  rw [if_pos hf]
  obtain ⟨m, hm⟩ := Try.tys
  rw [hm]
  have hk : Try.prog.keyLits (m + 1 + 1) 107 (Value.agg #[.string s, .int .i64 v]).cells.toList = some [.string s.data.toList, .int .i64 v] := by
    unfold Program.keyLits
    rw [Try.underlying107]
    simp [Value.cells]
    refine ⟨Try.cV.symm, ?_⟩
    rw [Try.c3, Try.c9]
    simp [lits3 m v hv, lits9 m s hs]
  rw [hk]
  exact ⟨_, rfl⟩
theorem key_par (t : Nat) (s : ByteArray) (ht : t ≤ 1000) (hs : s.size ≤ maxLen) : ∃ kl, keyOf Try.prog 114 (parV t s) = some kl := by
  have hv : (Lit.int .i64 (t : Int)).wf = true := by
    have a : IntKind.i64.min = -9223372036854775808 := by decide
    have b : IntKind.i64.max = 9223372036854775807 := by decide
    simp [Lit.wf, a, b]
    omega
  unfold keyOf parV
  rw [Try.underlying114]
  simp only [Try.ktP, Bool.true_and]
  have hf : (Value.agg #[.int .i64 (t : Int), .string s]).formed Try.prog 114 = true := by
    simp [Value.formed, Try.underlying114, Try.cP]
  rw [if_pos hf]
  obtain ⟨m, hm⟩ := Try.tys
  rw [hm]
  have hk : Try.prog.keyLits (m + 1 + 1) 114 (Value.agg #[.int .i64 (t : Int), .string s]).cells.toList = some [.int .i64 (t : Int), .string s.data.toList] := by
    unfold Program.keyLits
    rw [Try.underlying114]
    simp [Value.cells]
    refine ⟨Try.cP.symm, ?_⟩
    rw [Try.c3, Try.c9]
    simp [lits3 m t hv, lits9 m s hs]
  rw [hk]
  exact ⟨_, rfl⟩

/-- An entry is looked up or laid, then stored into: what the map holds then. -/
theorem MapV.entry {w : World} {P : Program} {k t e : TypeId} {b n : Nat} {f : Value → Option Value} (h : MapV w P k b n f) (K : WideMaps.KeyLaw P k) (ht : P.underlying t = some (.map k e)) {z : Value} (hz : ∀ u : World, (zeroValue e).run P u = .ok z u) (hn : n < maxLen) {key : Value} {kl : Lit} (hkey : keyOf P k key = some kl) :
    ∃ (st : Nat) (w1 : World), (Instr.mapEntry t (.map (some b)) key).run P w = .ok (.tuple #[(f key).getD z, goInt st]) w1 ∧ w.grownBy w1 (some b) ∧ w1.heap.size = w.heap.size ∧
      ∀ (w2 : World) (val : Value), w2.heap[b]? = w1.heap[b]? → ∃ w3 g, (Instr.entryStore t (.map (some b)) (goInt st) val).run P w2 = .ok () w3 ∧ IsPut f key val g ∧ MapV w3 P k b (n + 1) g ∧ w2.grownBy w3 (some b) := by
  have h' := h
  obtain ⟨D, ⟨es, clock, hb, F, hs, hD⟩, hrest⟩ := h
  obtain ⟨v0, st, es1, clock1, r1, hv0, r2⟩ := entry_then_store K ht hz hb F hkey
  have hv : v0 = (f key).getD z := by
    have hlook := h'.look (Keyed.of_law K) ht (hz w) hkey
    rcases K.find w hkey es.toList F.keys with ⟨h1, h2⟩ | ⟨j, e0, h1, h2, h3⟩
    · have hrun : (Instr.lookup t (.map (some b)) key false).run P w = .ok z w := by
        simp [Instr.lookup, run_underlying ht, MapKept.run_getObj_map hb, K.check w _ hkey, h1, hz, Result.andThen]
      have e1 := (Result.ok.inj (hrun.symm.trans hlook)).1
      rcases hv0 with ⟨e0, hm, hk, rfl⟩ | ⟨_, rfl⟩
      · exact absurd hk (h2 e0 hm)
      · exact e1
    · have hj : es[j]? = some e0 := by simpa using h2
      have hrun : (Instr.lookup t (.map (some b)) key false).run P w = .ok e0.val w := by
        simp [Instr.lookup, run_underlying ht, MapKept.run_getObj_map hb, K.check w _ hkey, h1, hj, Result.andThen]
      have e1 := (Result.ok.inj (hrun.symm.trans hlook)).1
      have hsame : es.modify j (fun e => { e with key := key }) = es := by
        apply Array.ext'
        rw [Array.toList_modify, modify_eq_set _ _ _ _ h2]
        have : ({ e0 with key := key } : MapEntry) = e0 := by rw [← h3]
        rw [this]
        exact set_self _ _ _ h2
      have hent : (Instr.mapEntry t (.map (some b)) key).run P w = .ok (.tuple #[e0.val, goInt e0.born]) (setBlock w b (.map es clock)) := by
        simp [Instr.mapEntry, run_underlying ht, MapKept.run_getObj_map hb, K.check w false hkey, h1, hj, h3, K.stays w hkey, hsame, MapKept.run_setObj_map _ hb, Result.andThen, setBlock]
      have e2 := (Result.ok.inj (r1.symm.trans hent)).1
      have e3 : v0 = e0.val := by
        have e4 := Value.tuple.inj e2
        exact Option.some.inj (show some v0 = some e0.val from congrArg (fun a : Array Value => a[0]?) e4)
      rw [e3]
      exact e1
  refine ⟨st, setBlock w b (.map es1 clock1), by rw [← hv]; exact r1, ⟨rfl, rfl, rfl, by simp [setBlock], fun i _ hi => heap_setBlock_other hb _ (fun e => hi (congrArg some e))⟩, by simp [setBlock], fun w2 val hw2 => ?_⟩
  have hw2' : w2.heap[b]? = some (.map es1 clock1) := hw2.trans (heap_setBlock_same hb _)
  obtain ⟨es', clock', q1, q2⟩ := r2 w2 val hw2'
  obtain ⟨w', g, p1, p2, p3, p4⟩ := h'.put (Keyed.of_law K) ht hn val hkey
  have e : w' = setBlock w b (.map es' clock') := (Result.ok.inj (p1.symm.trans q2)).2
  refine ⟨_, g, q1, p2, p3.same ?_, ⟨rfl, rfl, rfl, by simp [setBlock], fun i _ hi => heap_setBlock_other hw2' _ (fun e => hi (by rw [e]))⟩⟩
  rw [heap_setBlock_same hw2', e, heap_setBlock_same hb]
end Go.Proofs.Ytnfbcmnlloipiaa
namespace Go.Proofs.Ytnfbcmnlloipiaa
set_option linter.unusedVariables false
set_option linter.unusedSimpArgs false
open Go.RowKit Go.Lib Go.Maps

/-- nil, or a table whose map of kinds is nil. -/
def Nobody (w : World) (v : Value) : Prop := v = .pointer none ∨ ∃ b, v = .pointer (some ⟨b, 0, none⟩) ∧ w.cell? ⟨b, 2, none⟩ = some (.map none)
theorem Nobody.later {w w' : World} {v : Value} (h : Nobody w v) (hb : Below w.heap.size w w') : Nobody w' v := by
  rcases h with h | ⟨b, h, c2⟩
  · exact .inl h
  · exact .inr ⟨b, h, (hb.cell (p := ⟨b, 2, none⟩) (World.block_lt_of_cell? _ _ c2)).trans c2⟩
theorem lk_no (w : World) (s : ByteArray) : (Instr.lookup 60 (.map none) (.string s) false).run Try.prog w = .ok (.int .i64 0) w := by
  have h := Go.MapKept.run_checkKey (w := w) Try.underlying9 (k := .string s) (by trivial) true 9999
  simp [Instr.lookup, h, Instr.findKey, Instr.findNow, run_underlying Try.underlying60, run_underlying Try.underlying9, go_sem]
set_option maxRecDepth 100000 in
theorem kind_no (v : Value) (s : ByteArray) (w : World) (h : Nobody w v) : Calls Try.prog 65 #[v, .string s] w fun e w' => e = .returned (.int .i64 0) ∧ w = w' := by
  rcases h with rfl | ⟨b, rfl, c2⟩
  · go_enter Try.func65, Try.ntmps65
    go_wp2
    go_ret
    exact ⟨rfl, rfl⟩
  · have L := fun W => lk_no W s
    go_enter Try.func65, Try.ntmps65
    go_wp2
    go_ret
    exact ⟨rfl, rfl⟩
theorem new_cells (w : World) (cs : Array Value) (t : TypeId) (j : Nat) : (w.alloc (.cells cs t)).cell? ⟨w.heap.size, j, none⟩ = cs[j]? := Lib.cell_of_heap (heap_alloc_new w _) j
/-- What stands in a new block still stands behind a call. -/
theorem box_later {w w1 : World} {cs : Array Value} {t : TypeId} (b1 : Below (w.alloc (.cells cs t)).heap.size (w.alloc (.cells cs t)) w1) : w.heap.size < w1.heap.size ∧ (∀ i, w1.cell? ⟨w.heap.size, i, none⟩ = cs[i]?) ∧ (∀ i, w1.frozen? ⟨w.heap.size, i, none⟩ = false) ∧ Below w.heap.size w w1 := by
  have hs := b1.size
  rw [alloc_size] at hs
  have hlt : w.heap.size < (w.alloc (.cells cs t)).heap.size := by rw [alloc_size]; omega
  exact ⟨hs, fun i => (b1.cell (p := ⟨w.heap.size, i, none⟩) hlt).trans (new_cells w cs t i), fun i => (b1.frozen (p := ⟨w.heap.size, i, none⟩) hlt).trans (Lib.frozen_of_heap (heap_alloc_new w _) i), (below_box w _).trans (b1.mono (Nat.le_of_lt hlt))⟩
/-- A look that saw nothing. -/
abbrev noLook : Value := .agg #[.string ⟨#[]⟩, .slice none 0 0, .int .i64 0, .int .i64 0, .slice none 0 0, .map none]
set_option maxHeartbeats 2000000 in
set_option maxRecDepth 100000 in
theorem look_no (v : Value) (s : ByteArray) (w : World) (h : Nobody w v) : Calls Try.prog 41 #[v, .string s] w fun e w' => e = .returned (.tuple #[noLook, .bool false]) ∧ Below w.heap.size w w' := by
  have HN : ∀ o, Hid (Nobody (w.alloc o) v) := fun o => h.later (below_box w o)
  clear h
  go_enter Try.func41, Try.ntmps41
  go_wp2_with (go_at_call 65; refine (kind_no _ _ _ (HN _).out).mono ?_; rintro e w' ⟨rfl, rfl⟩)
  exact bodyPost_ret (v := .tuple #[noLook, .bool false]) (by simp [results, Try.results41, go_sem]) rfl ⟨rfl, below_box w _⟩
set_option maxHeartbeats 2000000 in
set_option maxRecDepth 100000 in
theorem trusted_no (v : Value) (s : ByteArray) (w : World) (h : Nobody w v) : Calls Try.prog 34 #[v, .string s] w fun e w' => e = .returned (.tuple #[noLook, .bool false]) ∧ Below w.heap.size w w' := by
  have HN : ∀ o, Hid (Nobody (w.alloc o) v) := fun o => h.later (below_box w o)
  clear h
  go_enter Try.func34, Try.ntmps34
  go_wp2_with (go_at_call 41; refine (look_no _ _ _ (HN _).out).mono ?_; rintro e w1 ⟨rfl, b1⟩; obtain ⟨hs1, c0, fz, b1⟩ := box_later b1; have B1 := hid b1; have y0 := c0 0; have y1 := c0 1; have y2 := c0 2; have y3 := c0 3; have y4 := c0 4; have y5 := c0 5; simp only [List.getElem?_toArray, List.getElem?_cons_zero, List.getElem?_cons_succ] at y0 y1 y2 y3 y4 y5; clear b1 c0 HN)
  rw [Tx.setCell_self y0, Tx.setCell_self y1, Tx.setCell_self y2, Tx.setCell_self y3, Tx.setCell_self y4, Tx.setCell_self y5]
  have al : ∀ (i : Nat) (u : Value), w1.cell? ⟨w.heap.size, i, none⟩ = some u → (w1.alloc (.cells #[.string ⟨#[]⟩, .slice none 0 0, .int .i64 0, .int .i64 0, .slice none 0 0, .map none] 80)).cell? ⟨w.heap.size, i, none⟩ = some u := fun i u h => Lib.cell?_alloc_some _ h
  have z0 := al 0 _ y0
  have z1 := al 1 _ y1
  have z2 := al 2 _ y2
  have z3 := al 3 _ y3
  have z4 := al 4 _ y4
  have z5 := al 5 _ y5
  exact bodyPost_ret (v := .tuple #[noLook, .bool false]) (by simp [results, Try.results34, go_sem, z0, z1, z2, z3, z4, z5]) rfl ⟨rfl, B1.out.trans ((below_box w1 _).mono B1.out.size)⟩
set_option maxHeartbeats 2000000 in
set_option maxRecDepth 100000 in
theorem trace_no (v : Value) (s : ByteArray) (w : World) (h : Nobody w v) : Calls Try.prog 12 #[v, .string s] w fun e w' => e = .returned (.tuple #[.slice none 0 0, .bool false]) ∧ Below w.heap.size w w' := by
  have HN := hid h
  clear h
  go_enter Try.func12, Try.ntmps12
  go_wp2_with (go_at_call 34; refine (trusted_no _ _ _ HN.out).mono ?_; rintro e w1 ⟨rfl, b1⟩; have B1 := hid b1; clear b1 HN)
  go_ret2
  exact ⟨rfl, B1.out.trans ((below_box w1 _).mono B1.out.size)⟩
set_option maxHeartbeats 2000000 in
set_option maxRecDepth 100000 in
theorem anom_no (v : Value) (s : ByteArray) (w : World) (h : Nobody w v) : Calls Try.prog 15 #[v, .string s] w fun e w' => e = .returned (.slice none 0 0) ∧ Below w.heap.size w w' := by
  have HN := hid h
  clear h
  go_enter Try.func15, Try.ntmps15
  go_wp2_with (go_at_call 41; refine (look_no _ _ _ HN.out).mono ?_; rintro e w1 ⟨rfl, b1⟩; have B1 := hid b1; clear b1 HN)
  go_ret
  exact ⟨rfl, B1.out.trans ((below_box w1 _).mono B1.out.size)⟩
set_option maxHeartbeats 2000000 in
set_option maxRecDepth 100000 in
theorem edges_no (v : Value) (s : ByteArray) (w : World) (h : Nobody w v) : Calls Try.prog 19 #[v, .string s] w fun e w' => e = .returned (.slice none 0 0) ∧ Below w.heap.size w w' := by
  have HN := hid h
  clear h
  go_enter Try.func19, Try.ntmps19
  go_wp2_with (go_at_call 34; refine (trusted_no _ _ _ HN.out).mono ?_; rintro e w1 ⟨rfl, b1⟩; have B1 := hid b1; clear b1 HN)
  go_ret
  exact ⟨rfl, B1.out.trans ((below_box w1 _).mono B1.out.size)⟩
end Go.Proofs.Ytnfbcmnlloipiaa
namespace Go.Proofs.Ytnfbcmnlloipiaa
set_option linter.unusedVariables false
set_option linter.unusedSimpArgs false
open Go.RowKit Go.Lib Go.Maps

/-- A look at a key of which one read, of nothing, is known. -/
structure Lk (w : World) (kb : Nat) (s : ByteArray) (rs : Value) (sb : Nat) : Prop where
  c0 : w.cell? ⟨kb, 0, none⟩ = some (.string s)
  c1 : w.cell? ⟨kb, 1, none⟩ = some rs
  c2 : w.cell? ⟨kb, 2, none⟩ = some (.int .i64 0)
  c3 : w.cell? ⟨kb, 3, none⟩ = some (.int .i64 0)
  c4 : w.cell? ⟨kb, 4, none⟩ = some (.slice none 0 0)
  c5 : w.cell? ⟨kb, 5, none⟩ = some (.map (some sb))
theorem Lk.later {w w' : World} {kb sb : Nat} {s : ByteArray} {rs : Value} (h : Lk w kb s rs sb) (hb : Below w.heap.size w w') : Lk w' kb s rs sb := by
  have hlt : kb < w.heap.size := World.block_lt_of_cell? _ _ h.c0
  exact ⟨(hb.cell (p := ⟨kb, 0, none⟩) hlt).trans h.c0, (hb.cell (p := ⟨kb, 1, none⟩) hlt).trans h.c1, (hb.cell (p := ⟨kb, 2, none⟩) hlt).trans h.c2, (hb.cell (p := ⟨kb, 3, none⟩) hlt).trans h.c3, (hb.cell (p := ⟨kb, 4, none⟩) hlt).trans h.c4, (hb.cell (p := ⟨kb, 5, none⟩) hlt).trans h.c5⟩
theorem below_drewN {B : Nat} {w w' : World} (h : Below B w w') (q : Nat) : Below B w (w'.drewN q) := ⟨h.os, h.tape, h.output, h.size, h.block⟩
/-- An empty read. -/
abbrev rd0 (la : Option Addr) (lc : Nat) : Value := .agg #[.int .i64 0, .int .i64 0, .slice la 0 lc]
/-- No anomaly. -/
abbrev an0 : Value := .agg #[.int .i64 0, .int .i64 0, .int .i64 0, .int .i64 0, .string ⟨#[]⟩, .int .i64 0, .slice none 0 0, .bool false, .int .i64 0]
theorem last_0 (la : Option Addr) (lc : Nat) (w : World) : Calls Try.prog 78 #[.slice la 0 lc] w fun e w' => e = .returned (.tuple #[.int .i64 0, .bool false]) ∧ w = w' := by
  go_enter Try.func78, Try.ntmps78
  go_wp2
  go_ret2
  exact ⟨rfl, rfl⟩
set_option maxHeartbeats 2000000 in
set_option maxRecDepth 100000 in
theorem middle_0 (kb : Nat) (la : Option Addr) (lc : Nat) (w : World) : Calls Try.prog 73 #[.pointer (some ⟨kb, 0, none⟩), rd0 la lc] w fun e w' => e = .returned (.tuple #[an0, .bool false]) ∧ Below w.heap.size w w' := by
  go_enter Try.func73, Try.ntmps73
  go_wp2_with (go_at_call 78; refine (last_0 _ _ _).mono ?_; rintro e w1 ⟨rfl, rfl⟩)
  exact bodyPost_ret (v := .tuple #[an0, .bool false]) (by simp [results, Try.results73, go_sem]) rfl ⟨rfl, (below_box w _).alloc (by rw [alloc_size]; omega) _⟩
set_option maxHeartbeats 2000000 in
set_option maxRecDepth 100000 in
theorem idx_0 (la : Option Addr) (lc : Nat) (f : Value) (w : World) : Calls Try.prog 85 #[.slice la 0 lc, f] w fun e w' => e = .returned (.int .i64 (-1)) ∧ w = w' := by
  go_enter Try.func85, Try.ntmps85
  go_wp2_with fail
  go_loopg [5, 8] 0 (fun g _ i wr => i = .int .i64 0 ∧ wr = w)
  case atStart => exact ⟨rfl, rfl⟩
  case round =>
    obtain ⟨rfl, rfl⟩ := hrel
    go_wp2_with fail
    go_ret
    exact ⟨rfl, rfl⟩
set_option maxHeartbeats 2000000 in
set_option maxRecDepth 100000 in
theorem twice_0 (kb : Nat) (la : Option Addr) (lc : Nat) (w : World) : Calls Try.prog 70 #[.pointer (some ⟨kb, 0, none⟩), rd0 la lc] w fun e w' => e = .returned (.tuple #[an0, .bool false]) ∧ Below w.heap.size w w' := by
  have hmm := @run_makeMap Try.prog
  go_enter Try.func70, Try.ntmps70
  go_wp2_with fail
  go_loopg [8, 13] 0 (fun g _ i wr => i = .int .i64 0 ∧ wr = ((w.alloc (.cells #[.int .i64 0, .int .i64 0, .slice la 0 lc] 77)).alloc (.cells #[.int .i64 0, .int .i64 0, .int .i64 0, .int .i64 0, .string ⟨#[]⟩, .int .i64 0, .slice none 0 0, .bool false, .int .i64 0] 85)).alloc (.map #[] 0))
  case atStart => exact ⟨rfl, rfl⟩
  case round =>
    obtain ⟨rfl, rfl⟩ := hrel
    go_wp2_with fail
    exact bodyPost_ret (v := .tuple #[an0, .bool false]) (by simp [results, Try.results70, go_sem]) rfl ⟨rfl, ((below_box w _).alloc (by rw [alloc_size]; omega) _).alloc (by rw [alloc_size, alloc_size]; omega) _⟩
set_option maxHeartbeats 2000000 in
set_option maxRecDepth 100000 in
theorem garbage_0 (kb : Nat) (la : Option Addr) (lc : Nat) (w : World) : Calls Try.prog 71 #[.pointer (some ⟨kb, 0, none⟩), rd0 la lc] w fun e w' => e = .returned (.tuple #[an0, .bool false]) ∧ Below w.heap.size w w' := by
  go_enter Try.func71, Try.ntmps71
  go_wp2_with (go_at_call 85; refine (idx_0 _ _ _ _).mono ?_; rintro e w1 ⟨rfl, rfl⟩)
  exact bodyPost_ret (v := .tuple #[an0, .bool false]) (by simp [results, Try.results71, go_sem]) rfl ⟨rfl, ((below_box w _).alloc (by rw [alloc_size]; omega) _).alloc (by rw [alloc_size, alloc_size]; omega) _⟩
set_option maxHeartbeats 2000000 in
set_option maxRecDepth 100000 in
theorem aborted_0 (kb : Nat) (la : Option Addr) (lc : Nat) (w : World) : Calls Try.prog 72 #[.pointer (some ⟨kb, 0, none⟩), rd0 la lc] w fun e w' => e = .returned (.tuple #[an0, .bool false]) ∧ Below w.heap.size w w' := by
  go_enter Try.func72, Try.ntmps72
  go_wp2_with (go_at_call 85; refine (idx_0 _ _ _ _).mono ?_; rintro e w1 ⟨rfl, rfl⟩)
  exact bodyPost_ret (v := .tuple #[an0, .bool false]) (by simp [results, Try.results72, go_sem]) rfl ⟨rfl, ((below_box w _).alloc (by rw [alloc_size]; omega) _).alloc (by rw [alloc_size, alloc_size]; omega) _⟩
set_option maxHeartbeats 2000000 in
set_option maxRecDepth 100000 in
theorem eq_0 (a b : Option Addr) (c d : Nat) (w : World) : Calls Try.prog 17 #[.slice a 0 c, .slice b 0 d] w fun e w' => e = .returned (.bool true) ∧ w' = w := by
  go_enter Try.func17, Try.ntmps17
  go_wp2_with fail
  go_loopg [5, 13] 0 (fun g _ i wr => i = .int .i64 0 ∧ wr = w)
  case atStart => exact ⟨rfl, rfl⟩
  case round =>
    obtain ⟨rfl, rfl⟩ := hrel
    go_wp2_with fail
    go_ret
    exact ⟨rfl, rfl⟩
set_option maxHeartbeats 2000000 in
set_option maxRecDepth 100000 in
theorem idxA_0 (f : Value) (w : World) : Calls Try.prog 99 #[.slice none 0 0, f] w fun e w' => e = .returned (.int .i64 (-1)) ∧ w = w' := by
  go_enter Try.func99, Try.ntmps99
  go_wp2_with fail
  go_loopg [5, 8] 0 (fun g _ i wr => i = .int .i64 0 ∧ wr = w)
  case atStart => exact ⟨rfl, rfl⟩
  case round =>
    obtain ⟨rfl, rfl⟩ := hrel
    go_wp2_with fail
    go_ret
    exact ⟨rfl, rfl⟩
theorem cont_0 (f : Value) (w : World) : Calls Try.prog 83 #[.slice none 0 0, f] w fun e w' => e = .returned (.bool false) ∧ w = w' := by
  go_enter Try.func83, Try.ntmps83
  go_wp2_with (go_at_call 99; refine (idxA_0 _ _).mono ?_; rintro e w1 ⟨rfl, rfl⟩)
  go_ret
  exact ⟨rfl, rfl⟩
theorem harmless_0 (w : World) : Calls Try.prog 62 #[.slice none 0 0] w fun e w' => e = .returned (.bool true) ∧ w = w' := by
  go_enter Try.func62, Try.ntmps62
  go_wp2_with (go_at_call 83; refine (cont_0 _ _).mono ?_; rintro e w1 ⟨rfl, rfl⟩)
  go_ret
  exact ⟨rfl, rfl⟩
set_option maxHeartbeats 2000000 in
set_option maxRecDepth 100000 in
theorem disorder_0 (kb sb : Nat) (s : ByteArray) (rs : Value) (w : World) (h : Lk w kb s rs sb) : Calls Try.prog 75 #[.pointer (some ⟨kb, 0, none⟩)] w fun e w' => e = .returned (.slice none 0 0) ∧ Below w.heap.size w w' := by
  have hmm := @run_makeMap Try.prog
  have c4 : (w.alloc (.map #[] 0)).cell? ⟨kb, 4, none⟩ = some (.slice none 0 0) := Lib.cell?_alloc_some _ h.c4
  go_enter Try.func75, Try.ntmps75
  go_wp2_with fail
  go_loopg [3, 6, 7, 15] 0 (fun g l _ _ i wr => l = .slice none 0 0 ∧ i = .int .i64 0 ∧ wr = w.alloc (.map #[] 0))
  case atStart => exact ⟨rfl, rfl, rfl⟩
  case round =>
    obtain ⟨rfl, rfl, rfl⟩ := hrel
    go_wp2_with fail
    go_ret
    exact ⟨rfl, below_box w _⟩
end Go.Proofs.Ytnfbcmnlloipiaa
namespace Go.Proofs.Ytnfbcmnlloipiaa
set_option linter.unusedVariables false
set_option linter.unusedSimpArgs false
open Go.RowKit Go.Lib Go.Maps

set_option maxHeartbeats 2000000 in
set_option maxRecDepth 100000 in
theorem fork_0 (kb sb : Nat) (s : ByteArray) (rs : Value) (la : Option Addr) (lc : Nat) (w : World) (h : Lk w kb s rs sb) : Calls Try.prog 74 #[.pointer (some ⟨kb, 0, none⟩), rd0 la lc] w fun e w' => e = .returned (.tuple #[an0, .bool false]) ∧ Below w.heap.size w w' := by
  have c4 : ∀ o p, ((w.alloc o).alloc p).cell? ⟨kb, 4, none⟩ = some (.slice none 0 0) := fun o p => Lib.cell?_alloc_some _ (Lib.cell?_alloc_some _ h.c4)
  clear h
  go_enter Try.func74, Try.ntmps74
  go_wp2_with fail
  go_quiet ((go_at_call 17; exact Calls.quiet_of_same (eq_0 _ _ _ _ _)))
  obtain ⟨W, hW⟩ : ∃ W, ((w.alloc (.cells #[.int .i64 0, .int .i64 0, .slice la 0 lc] 77)).alloc (.cells #[.int .i64 0, .int .i64 0, .int .i64 0, .int .i64 0, .string ⟨#[]⟩, .int .i64 0, .slice none 0 0, .bool false, .int .i64 0] 85)).drewN nq = W := ⟨_, rfl⟩
  have hs : (w.alloc (.cells #[.int .i64 0, .int .i64 0, .slice la 0 lc] 77)).heap.size = w.heap.size + 1 := by rw [alloc_size]
  have BW : Hid (Below w.heap.size w W) := by rw [← hW]; exact below_drewN ((below_box w _).alloc (by rw [alloc_size]; omega) _) _
  have ce : ∀ i, W.cell? ⟨w.heap.size + 1, i, none⟩ = (#[.int .i64 0, .int .i64 0, .int .i64 0, .int .i64 0, .string ⟨#[]⟩, .int .i64 0, .slice none 0 0, .bool false, .int .i64 0] : Array Value)[i]? := fun i => by
    rw [← hW, ← hs]
    exact new_cells (w.alloc (.cells #[.int .i64 0, .int .i64 0, .slice la 0 lc] 77)) _ 85 i
  have fz : ∀ i, W.frozen? ⟨w.heap.size + 1, i, none⟩ = false := fun i => by
    rw [← hW, ← hs]
    exact Lib.frozen_of_heap (heap_alloc_new (w.alloc (.cells #[.int .i64 0, .int .i64 0, .slice la 0 lc] 77)) _) i
  have y0 : W.cell? ⟨w.heap.size + 1, 0, none⟩ = some (.int .i64 0) := ce 0
  have y1 : W.cell? ⟨w.heap.size + 1, 1, none⟩ = some (.int .i64 0) := ce 1
  have y2 : W.cell? ⟨w.heap.size + 1, 2, none⟩ = some (.int .i64 0) := ce 2
  have y3 : W.cell? ⟨w.heap.size + 1, 3, none⟩ = some (.int .i64 0) := ce 3
  have y4 : W.cell? ⟨w.heap.size + 1, 4, none⟩ = some (.string ⟨#[]⟩) := ce 4
  have y5 : W.cell? ⟨w.heap.size + 1, 5, none⟩ = some (.int .i64 0) := ce 5
  have y6 : W.cell? ⟨w.heap.size + 1, 6, none⟩ = some (.slice none 0 0) := ce 6
  have y7 : W.cell? ⟨w.heap.size + 1, 7, none⟩ = some (.bool false) := ce 7
  have y8 : W.cell? ⟨w.heap.size + 1, 8, none⟩ = some (.int .i64 0) := ce 8
  rw [hW]
  clear hW ce hs c4
  go_wp2_with fail
  rw [Tx.setCell_self y0, Tx.setCell_self y1, Tx.setCell_self y2, Tx.setCell_self y3, Tx.setCell_self y4, Tx.setCell_self y5, Tx.setCell_self y6, Tx.setCell_self y7, Tx.setCell_self y8]
  exact bodyPost_ret (v := .tuple #[an0, .bool false]) (by simp [results, Try.results74, go_sem, y0, y1, y2, y3, y4, y5, y6, y7, y8]) rfl ⟨rfl, BW.out⟩
end Go.Proofs.Ytnfbcmnlloipiaa
namespace Go.Proofs.Ytnfbcmnlloipiaa
set_option linter.unusedVariables false
set_option linter.unusedSimpArgs false
open Go.RowKit Go.Lib Go.Maps

abbrev fnV (f kb : Nat) : Value := .func (.func f) #[.pointer (some ⟨kb, 0, none⟩)] #[]
abbrev fns (kb : Nat) : Array Value := #[fnV 70 kb, fnV 71 kb, fnV 72 kb, fnV 73 kb, fnV 74 kb]
end Go.Proofs.Ytnfbcmnlloipiaa
