/-
  The places of a spiral are unlike, and each one step from the next: PlotApart.
-/
import Derived.Test.YtjkbjnmekbhllaaPl2
import Derived.MapKept
import Derived.Carry
namespace Go.Proofs.Ytjkbjnmekbhllaa
set_option linter.unusedVariables false
set_option linter.unusedSimpArgs false
open Go.RowKit Go.MapKept

/-- The bits of -1. -/
abbrev negone : Nat := 13830554455654793216
def eqAll : Bool := (List.range 21).all fun i => (List.range 21).all fun j => (FloatKind.f64.format.order (fb ((i : Int) - 10)) (fb ((j : Int) - 10)) == some .eq) == decide (i = j)
theorem eqAll_true : eqAll = true := by decide +kernel
theorem eq_at (x y : Int) (h : -10 ≤ x ∧ x ≤ 10) (k : -10 ≤ y ∧ y ≤ 10) : (FloatKind.f64.format.order (fb x) (fb y) == some .eq) = decide (x = y) := by
  have h1 := eqAll_true
  unfold eqAll at h1
  rw [List.all_eq_true] at h1
  have h2 := h1 (x + 10).toNat (List.mem_range.2 (by omega))
  rw [List.all_eq_true] at h2
  have h3 := h2 (y + 10).toNat (List.mem_range.2 (by omega))
  have e : (((x + 10).toNat : Nat) : Int) - 10 = x := by omega
  have e' : (((y + 10).toNat : Nat) : Int) - 10 = y := by omega
  rw [e, e', beq_iff_eq] at h3
  rw [h3]
  by_cases c : x = y
  · rw [decide_eq_true c, decide_eq_true (by omega)]
  · rw [decide_eq_false c, decide_eq_false (by omega)]
def ppL : Nat → Pp → List (Int × Int)
  | 0, _ => []
  | n + 1, p => p.1 :: ppL n (ppN p)
theorem ppL_at : ∀ (n : Nat) (k j : Nat), j < n → (ppL n (ppA k))[j]? = some (plX (k + j), plY (k + j)) := by
  intro n
  induction n with
  | zero => intro k j h; omega
  | succ m ih =>
    intro k j h
    cases j with
    | zero => rfl
    | succ q =>
      have := ih (k + 1) q (by omega)
      have e : k + 1 + q = k + (q + 1) := by omega
      rw [e] at this
      exact this
def nodupB : List (Int × Int) → Bool
  | [] => true
  | p :: l => l.all (fun q => decide (p ≠ q)) && nodupB l
theorem nodup_at : ∀ (l : List (Int × Int)), nodupB l = true → ∀ (i j : Nat) (p q : Int × Int), i < j → l[i]? = some p → l[j]? = some q → p ≠ q := by
  intro l
  induction l with
  | nil => intro _ i j p q _ h; simp at h
  | cons a l ih =>
    intro h i j p q hij hi hj
    simp only [nodupB, Bool.and_eq_true, List.all_eq_true] at h
    cases i with
    | zero =>
      cases j with
      | zero => omega
      | succ j =>
        simp at hi hj
        subst hi
        have := h.1 q (List.mem_of_getElem? hj)
        simpa using this
    | succ i =>
      cases j with
      | zero => omega
      | succ j => exact ih h.2 i j p q (by omega) hi hj
theorem nodup_all : nodupB (ppL 101 (ppA 0)) = true := by decide +kernel
theorem pl_ne (i j : Nat) (hij : i < j) (hj : j ≤ 100) : ¬ (plX j = plX i ∧ plY j = plY i) := by
  intro h
  have h1 := ppL_at 101 0 i (by omega)
  have h2 := ppL_at 101 0 j (by omega)
  rw [Nat.zero_add] at h1 h2
  exact nodup_at _ nodup_all i j _ _ hij h1 h2 (by rw [h.1, h.2])
theorem cV_is (k : Nat) (hk : k ≤ 100) : cV k = .complex .f64 (fb (plX k)) (fb (plY k)) := by
  obtain ⟨_, _, _, _, _, _, e1, e2⟩ := sp_facts k hk
  unfold cV
  rw [e1, e2]
theorem eq_no (w : World) (i j : Nat) (hij : i < j) (hj : j ≤ 100) : (Op.equal 29 (cV j) (cV i)).run Try.prog w = .ok false w := by
  have h1 := pl_range i (by omega)
  have h2 := pl_range j hj
  have h3 := pl_ne i j hij hj
  have e1 := eq_at (plX j) (plX i) (by omega) (by omega)
  have e2 := eq_at (plY j) (plY i) (by omega) (by omega)
  have hf : (decide (plX j = plX i) && decide (plY j = plY i)) = false := by
    by_cases a : plX j = plX i
    · rw [decide_eq_false (fun c => h3 ⟨a, c⟩), Bool.and_false]
    · rw [decide_eq_false a, Bool.false_and]
  rw [cV_is j hj, cV_is i (by omega)]
  unfold Op.equal Op.maxDepth Op.equalIn
  simp only [Sem.run_bind, run_underlying Try.underlying29, Result.andThen, if_true, Op.floatEq, e1, e2, hf]
  rfl
/-- What is in the map behind so many places. -/
def esK (k : Nat) : Array MapEntry := ((List.range k).map fun j => ({ key := cV j, val := .bool true, born := j } : MapEntry)).toArray
theorem esK_succ (k : Nat) : esK (k + 1) = (esK k).push { key := cV k, val := .bool true, born := k } := by simp [esK, List.range_succ]
theorem esK_size (k : Nat) : (esK k).size = k := by simp [esK]
def MC (w : World) (b k : Nat) : Prop := w.heap[b]? = some (.map (esK k) k)
theorem ask_no (w : World) (k : Nat) (hk : k ≤ 100) : ∀ (l : List MapEntry) (i : Nat), (∀ e ∈ l, ∃ j, j < k ∧ e.key = cV j) → (Instr.findAsking 29 (cV k) l i).run Try.prog w = .ok none w
  | [], i, _ => rfl
  | e :: l, i, h => by
    obtain ⟨j, hj, he⟩ := h e (by simp)
    unfold Instr.findAsking
    simp only [Sem.run_bind, he, eq_no w j k hj hk, Result.andThen]
    exact ask_no w k hk l (i + 1) (fun x hx => h x (by simp [hx]))
theorem find_no (w : World) (k : Nat) (hk : k ≤ 100) (l : List MapEntry) (h : ∀ e ∈ l, ∃ j, j < k ∧ e.key = cV j) : (Instr.findKey 29 (cV k) l).run Try.prog w = .ok none w := by
  unfold Instr.findKey
  simp only [Sem.run_bind, run_underlying Try.underlying29, Result.andThen]
  cases l with
  | nil => rfl
  | cons e l =>
    have : Instr.findNow (.complex .f64) (cV k) (e :: l) 0 = none := by
      unfold Instr.findNow
      rfl
    rw [this]
    exact ask_no w k hk _ 0 h
theorem upd_c {w : World} {b k : Nat} (h : MC w b k) (hk : k ≤ 100) : ∃ w', (Instr.mapUpdate 28 (.map (some b)) (cV k) (.bool true)).run Try.prog w = .ok () w' ∧ MC w' b (k + 1) ∧ w.grownBy w' (some b) := by
  have hf := find_no w k hk (esK k).toList (fun e he => by
    simp only [esK, List.mem_map, List.mem_range] at he
    obtain ⟨j, hj, rfl⟩ := he
    exact ⟨j, hj, rfl⟩)
  have hc : (Instr.checkKey false 10000 29 (cV k)).run Try.prog w = .ok () w := by
    unfold Instr.checkKey
    simp only [Sem.run_bind, run_underlying Try.underlying29, Result.andThen]
    rfl
  refine ⟨{ w with heap := w.heap.setIfInBounds b (.map ((esK k).push { key := cV k, val := .bool true, born := k }) (k + 1)) }, ?_, ?_, ?_⟩
  · unfold Instr.mapUpdate
    simp only [Sem.run_bind, run_underlying Try.underlying28, Result.andThen, Go.MapKept.run_getObj_map (P := Try.prog) h, hc, hf]
    exact Go.MapKept.run_setObj_map _ h
  · show _ = _
    rw [esK_succ]
    exact (heap_set h).1
  · exact ⟨rfl, rfl, rfl, by simp, fun i hi hne => (heap_set h).2 i (fun e => hne (by rw [e]))⟩
/-- m[place] = true, in a walk. -/
theorem wpList_mapC {ops : Array Oper} {rest : List Oper} {o : Oper} {a : Act} {Q : Exit → Act → World → Prop} (w : World) (hg : o.guard = none) (m x v : Operand) (hop : o.op = Op.mapUpdate 28 m x v)
    (b k : Nat) (hm : a.eval m = .map (some b)) (h : MC w b k) (hk : k ≤ 100) (hx : a.eval x = cV k) (hv : a.eval v = .bool true)
    (hK : ∀ w', MC w' b (k + 1) → w.grownBy w' (some b) → wpList Try.prog ops Q rest (a.put o.dst undef) w') : wpList Try.prog ops Q (o :: rest) a w := by
  refine wpList_plain hg fun K' hK' => ?_
  obtain ⟨w', hrun, r1, r2⟩ := upd_c h hk
  unfold Oper.wp
  simp [execOp, hop, hm, hx, hv, hrun, Result.andThen]
  exact hK' _ _ (hK w' r1 r2)
def okD : Nat → Sp → Bool
  | 0, _ => true
  | n + 1, s => (let s' := spN s
    let d := cSumBits .sub .f64 s'.ax s'.ay s.ax s.ay
    d == some (one, 0) || d == some (negone, 0) || d == some (0, one) || d == some (0, negone)) && okD n (spN s)
theorem okD_all : okD 100 (spA 0) = true := by decide +kernel
theorem okD_at : ∀ (n k : Nat), okD n (spA k) = true → ∀ j, j < n → (let d := cSumBits .sub .f64 (spA (k + j + 1)).ax (spA (k + j + 1)).ay (spA (k + j)).ax (spA (k + j)).ay
    d = some (one, 0) ∨ d = some (negone, 0) ∨ d = some (0, one) ∨ d = some (0, negone)) := by
  intro n
  induction n with
  | zero => intro k _ j hj; omega
  | succ m ih =>
    intro k h j hj
    simp only [okD, Bool.and_eq_true] at h
    cases j with
    | zero =>
      have h1 := h.1
      simp only [Bool.or_eq_true, beq_iff_eq, or_assoc] at h1
      exact h1
    | succ q =>
      have := ih (k + 1) h.2 q (by omega)
      have e : k + 1 + q = k + (q + 1) := by omega
      rw [e] at this
      exact this
theorem d_at (j : Nat) (hj : j < 100) : cSumBits .sub .f64 (spA (j + 1)).ax (spA (j + 1)).ay (spA j).ax (spA j).ay = some (one, 0) ∨ cSumBits .sub .f64 (spA (j + 1)).ax (spA (j + 1)).ay (spA j).ax (spA j).ay = some (negone, 0)
    ∨ cSumBits .sub .f64 (spA (j + 1)).ax (spA (j + 1)).ay (spA j).ax (spA j).ay = some (0, one) ∨ cSumBits .sub .f64 (spA (j + 1)).ax (spA (j + 1)).ay (spA j).ax (spA j).ay = some (0, negone) := by
  have := okD_at 100 0 okD_all j hj
  rw [Nat.zero_add] at this
  exact this
theorem o11 : (FloatKind.f64.format.order one one == some .eq) = true := by decide +kernel
theorem onn : (FloatKind.f64.format.order negone negone == some .eq) = true := by decide +kernel
theorem o00 : (FloatKind.f64.format.order 0 0 == some .eq) = true := by decide +kernel
theorem on1 : (FloatKind.f64.format.order negone one == some .eq) = false := by decide +kernel
theorem o1n : (FloatKind.f64.format.order one negone == some .eq) = false := by decide +kernel
theorem o10 : (FloatKind.f64.format.order one 0 == some .eq) = false := by decide +kernel
theorem on0 : (FloatKind.f64.format.order negone 0 == some .eq) = false := by decide +kernel
theorem o01 : (FloatKind.f64.format.order 0 one == some .eq) = false := by decide +kernel
theorem o0n : (FloatKind.f64.format.order 0 negone == some .eq) = false := by decide +kernel
theorem spM_le (n : Int) : spM n ≤ 100 := by unfold spM; omega
set_option maxHeartbeats 8000000 in
set_option maxRecDepth 100000 in
/-- PlotApart. -/
theorem apart_walk (n : Int) (w : World) :
    Calls Try.prog 4 #[.int .i64 n] w fun e w' => e = .returned (.bool true) ∧ Below w.heap.size w w' := by
  have a1 := o11
  have a2 := onn
  have a3 := o00
  have a4 := on1
  have a5 := o1n
  have a6 := o10
  have a7 := on0
  have a8 := o01
  have a9 := o0n
  have hmk := @run_makeMap Try.prog
  have hm100 := spM_le n
  obtain ⟨m, hm⟩ : ∃ m : Nat, m = spM n := ⟨_, rfl⟩
  have hmm : min (max n 0) 100 = (m : Int) := by rw [hm]; unfold spM; omega
  rw [← hm] at hm100
  have HM := hid hm
  clear hm
  go_enter Try.func4, Try.ntmps4
  go_wp2_with (go_at_call 6; refine (pSpiral_is _ _).mono ?_; rintro e w1 ⟨v1, rfl, hr1, hb1⟩; rw [← HM.out] at hr1; obtain ⟨va, vc, rfl⟩ := own_slice hr1; have R1 := hid hr1; have B1 := hid hb1; have s1 := hb1.size; clear hr1 hb1)
  have MC0 : Hid (MC (w1.alloc (.map #[] 0)) w1.heap.size 0) := by
    show _ = _
    rw [alloc_at, if_pos rfl]
    rfl
  go_loopg [13] m (fun gg i wr => ∃ k : Nat, k ≤ m ∧ m - k ≤ gg ∧ i = .int .i64 k ∧ Aside (MC wr w1.heap.size k) ∧ Aside (Below w1.heap.size w1 wr))
  case atStart => exact ⟨0, Nat.zero_le _, by omega, rfl, MC0.out, below_box _ _⟩
  case round =>
    obtain ⟨k, hk, hgk, rfl, MK, BK⟩ := hrel
    by_cases hlt : k < m
    · have hlti : (k : Int) < m := by omega
      obtain ⟨vg, vcap, hvf, hvl⟩ := World.ownsRow.form R1.out (by omega)
      cases hvf
      have c0 := World.ownsRow.cellAt R1.out k (by omega)
      rw [cVs_at m k hlt] at c0
      have d0 := (BK.out.cell (p := ⟨vg, k, none⟩) (World.block_lt_of_cell? _ _ c0)).trans c0
      have hck : Hid (cV k = .complex .f64 (spA k).ax (spA k).ay) := rfl
      rw [hck.out] at d0
      clear c0
      by_cases h0 : k = 0
      · subst h0
        go_wp2_with (at_mapUpdate; refine wpList_mapC _ rfl _ _ _ rfl w1.heap.size 0 rfl MK.out (by omega) rfl rfl ?_; intro w2 hm2 hg2; have M2 := hid hm2; have B2 : Hid (Below w1.heap.size wr w2) := ⟨hg2.os, hg2.tape, hg2.output, hg2.size, fun b hb => hg2.block b (by have := BK.out.size; omega) (fun c => by cases c; omega)⟩; clear hm2 hg2)
        go_roundg (m - (0 + 1))
        case measure => omega
        case rel => exact ⟨0 + 1, by omega, by omega, by go_num, M2.out, BK.out.trans B2.out⟩
      · obtain ⟨q, rfl⟩ : ∃ q, k = q + 1 := ⟨k - 1, by omega⟩
        have hq0 : decide ((0 : Int) < ((q + 1 : Nat) : Int)) = true := decide_eq_true (by omega)
        have c1 := World.ownsRow.cellAt R1.out q (by omega)
        rw [cVs_at m q (by omega)] at c1
        have d1 := (BK.out.cell (p := ⟨vg, q, none⟩) (World.block_lt_of_cell? _ _ c1)).trans c1
        have hcq : Hid (cV q = .complex .f64 (spA q).ax (spA q).ay) := rfl
        rw [hcq.out] at d1
        clear c1
        have hd := d_at q (by omega)
        have hqw : wrap64 (((q + 1 : Nat) : Int) - 1) = (q : Int) := by unfold wrap64; omega
        have hqm : (q : Int) < m := by omega
        have hckq := hid (rfl : cV (q + 1) = .complex .f64 (spA (q + 1)).ax (spA (q + 1)).ay)
        rcases hd with hd | hd | hd | hd
        · have hsub := fun (w : World) => run_complex_sum (P := Try.prog) w .sub (.inr rfl) 29 .f64 _ _ _ _ _ _ hd
          clear hd
          go_wp2_with (at_mapUpdate; refine wpList_mapC _ rfl _ _ _ rfl w1.heap.size (q + 1) rfl MK.out (by omega) rfl rfl ?_; intro w2 hm2 hg2; have M2 := hid hm2; have B2 : Hid (Below w1.heap.size wr w2) := ⟨hg2.os, hg2.tape, hg2.output, hg2.size, fun b hb => hg2.block b (by have := BK.out.size; omega) (fun c => by cases c; omega)⟩; clear hm2 hg2)
          go_roundg (m - (q + 1 + 1))
          case measure => omega
          case rel => exact ⟨q + 1 + 1, by omega, by omega, by go_num, M2.out, BK.out.trans B2.out⟩
        · have hsub := fun (w : World) => run_complex_sum (P := Try.prog) w .sub (.inr rfl) 29 .f64 _ _ _ _ _ _ hd
          clear hd
          go_wp2_with (at_mapUpdate; refine wpList_mapC _ rfl _ _ _ rfl w1.heap.size (q + 1) rfl MK.out (by omega) rfl rfl ?_; intro w2 hm2 hg2; have M2 := hid hm2; have B2 : Hid (Below w1.heap.size wr w2) := ⟨hg2.os, hg2.tape, hg2.output, hg2.size, fun b hb => hg2.block b (by have := BK.out.size; omega) (fun c => by cases c; omega)⟩; clear hm2 hg2)
          go_roundg (m - (q + 1 + 1))
          case measure => omega
          case rel => exact ⟨q + 1 + 1, by omega, by omega, by go_num, M2.out, BK.out.trans B2.out⟩
        · have hsub := fun (w : World) => run_complex_sum (P := Try.prog) w .sub (.inr rfl) 29 .f64 _ _ _ _ _ _ hd
          clear hd
          go_wp2_with (at_mapUpdate; refine wpList_mapC _ rfl _ _ _ rfl w1.heap.size (q + 1) rfl MK.out (by omega) rfl rfl ?_; intro w2 hm2 hg2; have M2 := hid hm2; have B2 : Hid (Below w1.heap.size wr w2) := ⟨hg2.os, hg2.tape, hg2.output, hg2.size, fun b hb => hg2.block b (by have := BK.out.size; omega) (fun c => by cases c; omega)⟩; clear hm2 hg2)
          go_roundg (m - (q + 1 + 1))
          case measure => omega
          case rel => exact ⟨q + 1 + 1, by omega, by omega, by go_num, M2.out, BK.out.trans B2.out⟩
        · have hsub := fun (w : World) => run_complex_sum (P := Try.prog) w .sub (.inr rfl) 29 .f64 _ _ _ _ _ _ hd
          clear hd
          go_wp2_with (at_mapUpdate; refine wpList_mapC _ rfl _ _ _ rfl w1.heap.size (q + 1) rfl MK.out (by omega) rfl rfl ?_; intro w2 hm2 hg2; have M2 := hid hm2; have B2 : Hid (Below w1.heap.size wr w2) := ⟨hg2.os, hg2.tape, hg2.output, hg2.size, fun b hb => hg2.block b (by have := BK.out.size; omega) (fun c => by cases c; omega)⟩; clear hm2 hg2)
          go_roundg (m - (q + 1 + 1))
          case measure => omega
          case rel => exact ⟨q + 1 + 1, by omega, by omega, by go_num, M2.out, BK.out.trans B2.out⟩
    · have hlti : ¬ (k : Int) < m := by omega
      have e : k = m := by omega
      subst e
      have hlen : ∀ ty, (Builtin.len_ #[28] ty #[.map (some w1.heap.size)]).run Try.prog wr = .ok (.int .i64 (k : Int)) wr := fun ty => by
        have h1 := Go.MapKept.run_getObj_map (P := Try.prog) MK.out
        simp [Builtin.len_, Sem.run_bind, run_underlying Try.underlying28, Result.andThen, h1, goInt, esK_size]
      go_wp2_with fail
      go_ret
      exact ⟨rfl, B1.out.trans (BK.out.mono s1)⟩
end Go.Proofs.Ytjkbjnmekbhllaa
