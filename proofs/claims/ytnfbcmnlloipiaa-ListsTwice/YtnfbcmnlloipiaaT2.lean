/-
  Walks of slices.Clone of ints and of assayerplain's Ops: operations in new memory.
-/
import Derived.Test.YtnfbcmnlloipiaaT1
import Derived.Lib.SliceRun
import Derived.Lib.Walk
import Derived.Deep.DrawnRows
namespace Go.Proofs.Ytnfbcmnlloipiaa.Tx
set_option linter.unusedVariables false
set_option linter.unusedSimpArgs false
open Go.RowKit Go.Lib

theorem info_parts {P : Program} {t : TypeId} {z : Option Value} {s b : Nat} (h : (P.info? t).map (fun i => (i.zero, i.size, i.bytes)) = some (z, s, b)) : ∃ i, P.info? t = some i ∧ i.zero = z ∧ i.size = s ∧ i.bytes = b := by
  cases hi : P.info? t with
  | none => rw [hi] at h; cases h
  | some i => rw [hi] at h; simp at h; exact ⟨i, rfl, h.1, h.2.1, h.2.2⟩

/-- A block that may be written. -/
def Soft (w : World) (b : Nat) : Prop := ∀ o, w.frozen? ⟨b, o, none⟩ = false
theorem Soft.keep {w w' : World} {b : Nat} (h : Soft w b) (e : w'.heap[b]? = w.heap[b]?) : Soft w' b := fun o => by
  have := h o
  unfold World.frozen? at *
  simp only [e]
  exact this
/-- A slice of elements of k cells in a block of its own; what they lead to lies elsewhere. -/
def RowsOwn {α : Type} [Inhabited α] (k bytes : Nat) (R : (Nat → Prop) → World → List Value → α → Prop) (S : Nat → Prop) (w : World) (v : Value) (l : List α) : Prop :=
  ∃ ao c, v = .slice ao l.length c ∧ (l.length * bytes ≤ 140737488355328 ∧ l.length ≤ c) ∧ (0 < l.length → ∃ b, ao = some ⟨b, 0, none⟩ ∧ S b ∧ (∀ o, w.frozen? ⟨b, o, none⟩ = false) ∧ ∀ j, j < l.length → ∃ cs, cs.length = k ∧ R (fun x => S x ∧ x ≠ b) w cs (l.getD j default) ∧ ∀ i u, cs[i]? = some u → w.cell? ⟨b, j * k + i, none⟩ = some u)

theorem frozen_of_block {w w' : World} {b : Nat} (h : w'.heap[b]? = w.heap[b]?) (o : Nat) : w'.frozen? ⟨b, o, none⟩ = w.frozen? ⟨b, o, none⟩ := by
  unfold World.frozen?
  simp only [h]

section
variable {α : Type} [Inhabited α] {k bytes : Nat} {R : (Nat → Prop) → World → List Value → α → Prop} {S T : Nat → Prop} {w w' : World} {v : Value} {l : List α}
theorem RowsOwn.keep (hkeep : ∀ (S T : Nat → Prop) w w' cs x, R S w cs x → KeepsIn S w w' → (∀ b, b < w.heap.size → S b → T b) → R T w' cs x) (hk0 : 0 < k) (h : RowsOwn k bytes R S w v l) (hk : KeepsIn S w w') (hT : ∀ b, b < w.heap.size → S b → T b) : RowsOwn k bytes R T w' v l := by
  obtain ⟨ao, c, hv, hl, hc⟩ := h
  refine ⟨ao, c, hv, hl, fun h0 => ?_⟩
  obtain ⟨b, ha, hS, hf, hj⟩ := hc h0
  have hb : b < w.heap.size := by
    obtain ⟨cs, hlen, _, hcs⟩ := hj 0 h0
    exact World.block_lt_of_cell? _ _ (hcs 0 cs[0] (List.getElem?_eq_getElem (by omega)))
  refine ⟨b, ha, hT b hb hS, fun o => (frozen_of_block (hk b hS hb) o).trans (hf o), fun j h => ?_⟩
  obtain ⟨cs, hlen, hr, hcs⟩ := hj j h
  exact ⟨cs, hlen, hkeep _ _ _ _ _ _ hr (fun x hx hb => hk x hx.1 hb) (fun x hb hx => ⟨hT x hb hx.1, hx.2⟩), fun i u hi => hk.cell (p := ⟨b, j * k + i, none⟩) hS (hcs i u hi)⟩
theorem RowsOwn.rows (hkeep : ∀ (S T : Nat → Prop) w w' cs x, R S w cs x → KeepsIn S w w' → (∀ b, b < w.heap.size → S b → T b) → R T w' cs x) (h : RowsOwn k bytes R S w v l) : RowsIn k bytes (R S w) S w v l := by
  obtain ⟨ao, c, hv, hl, hc⟩ := h
  refine ⟨ao, c, hv, hl, fun h0 => ?_⟩
  obtain ⟨b, ha, hS, hf, hj⟩ := hc h0
  refine ⟨b, 0, ha, hS, fun j h => ?_⟩
  obtain ⟨cs, hlen, hr, hcs⟩ := hj j h
  exact ⟨cs, hlen, hkeep _ _ _ _ _ _ hr (fun x hx hb => rfl) (fun x hb hx => hx.1), fun i u hi => by rw [Nat.zero_add]; exact hcs i u hi⟩
/-- At the end: the list lies in a block of its own, from B on. -/
theorem OutInv.rows_own {e size n B : Nat} {wr : World} {rows : List (List Value)} {bytes : Nat} (hkeep : ∀ (S T : Nat → Prop) w w' cs x, R S w cs x → KeepsIn S w w' → (∀ b, b < w.heap.size → S b → T b) → R T w' cs x)
    (h : OutInv e size R B wr v n rows l) (hbytes : n * bytes ≤ 140737488355328) : RowsOwn size bytes R (fun b => B ≤ b) wr v l := by
  have hl := h.ln
  subst hl
  rcases h.own.2 with ⟨hv, hn⟩ | ⟨g, cap, cur, hv, hg, hgg, hcap, _⟩
  · exact ⟨none, 0, by rw [hv, hn], ⟨hbytes, by omega⟩, fun h0 => by omega⟩
  · refine ⟨some ⟨g, 0, none⟩, cap, hv, ⟨hbytes, hcap⟩, fun _ => ⟨g, rfl, hg, fun o => by unfold World.frozen?; simp only [hgg]; simp, fun j hj => ?_⟩⟩
    have hjr : j < rows.length := by rw [h.rn]; exact hj
    have hmem : rows.getD j [] ∈ rows := by simp [List.getD, List.getElem?_eq_getElem hjr]
    refine ⟨rows.getD j [], h.sizes _ hmem, hkeep _ _ wr wr _ _ (h.each j hj) (fun _ _ _ => rfl) (fun b _ hb => ⟨hb.1, fun e => hb.2 (by rw [hv, e]; rfl)⟩), fun i u hi => ?_⟩
    have hil : i < size := by rw [← h.sizes _ hmem]; exact (List.getElem?_eq_some_iff.1 hi).1
    have := h.own.cells (g := g) (by rw [hv]; rfl) (j * size + i) u (by rw [flatten_get size rows j i h.sizes hjr hil]; exact hi)
    rw [Addr.add_lit] at this
    simpa using this
end
/-- The six cells of an operation whose list may be written. -/
def OpSoft (S : Nat → Prop) (w : World) (cs : List Value) (o : MOp) : Prop := OpRow (fun b => S b ∧ Soft w b) w cs o
theorem opSoft_keep (S T : Nat → Prop) (w w' : World) (cs : List Value) (x : MOp) (h : OpSoft S w cs x) (hk : KeepsIn S w w') (hT : ∀ b, b < w.heap.size → S b → T b) : OpSoft T w' cs x := OpRow.keep h (fun b hb hl => hk b hb.1 hl) (fun b hl hb => ⟨hT b hl hb.1, hb.2.keep (hk b hb.1 hl)⟩)
def OpsOwn (S : Nat → Prop) (w : World) (v : Value) (l : List MOp) : Prop := RowsOwn 6 64 OpSoft S w v l

theorem Try.infoInt : (Try.prog.info? 3).map (fun i => (i.zero, i.size, i.bytes)) = some (some (.int .i64 0), 1, 8) := by kernel_rfl

theorem cloneInts_nil (n c : Nat) (w : World) :
    Calls Try.prog 50 #[.slice none n c] w fun e w' => e = .returned (.slice none 0 0) ∧ w' = w := by
  have q22 : ∀ (w : World) (a : Option Addr) (n c n' c' : Nat), (binOp .eql 28 (.slice a n c) (.slice none n' c')).run Try.prog w = .ok (.bool a.isNone) w := fun w a n c n' c' => Lib.run_eql_slice_nil w _ _ a n c n' c' Try.underlying28
  go_enter Try.func50, Try.ntmps50
  go_wp2
  go_ret
  exact ⟨rfl, rfl⟩

set_option maxHeartbeats 2000000 in
set_option maxRecDepth 100000 in
theorem cloneInts_some (ad : Addr) (c : Nat) (l : List Int) (w : World) (hbig : l.length * 8 ≤ 140737488355328) (hc : ∀ j, j < l.length → w.cell? (ad.add j) = some (.int .i64 (l.getD j default))) :
    Calls Try.prog 50 #[.slice (some ad) l.length c] w fun e w' => ∃ v', e = .returned v' ∧ w'.ownsRow w.heap.size 3 1 v' l.length (l.map (Value.int .i64)) ∧ Below w.heap.size w w' := by
  obtain ⟨i0, hi, hz0, hz1, hz2⟩ := info_parts Try.infoInt
  have q22 : ∀ (w : World) (a : Option Addr) (n c n' c' : Nat), (binOp .eql 28 (.slice a n c) (.slice none n' c')).run Try.prog w = .ok (.bool a.isNone) w := fun w a n c n' c' => Lib.run_eql_slice_nil w _ _ a n c n' c' Try.underlying28
  have u22 : ∀ w, Sem.run Try.prog (underlying 28) w = .ok (TypeDesc.slice 3) w := run_underlying Try.underlying28
  have A := hid hc
  clear hc
  go_enter Try.func50, Try.ntmps50
  go_wp2_with (at_builtin; refine wpList_append_own _ rfl _ _ 28 rfl w.heap.size 3 i0 (.int .i64 0) 1 8 Try.underlying28 hi hz0 hz1 hz2 rfl (by decide) _ _ _ rfl (World.ownsRow_made w #[] 0 (Nat.le_refl _) (Nat.zero_le _) rfl) ad l.length c (l.map (Value.int .i64)) rfl ?qc1 ?qc2 ?qc3 ?qc4 ?qc5 ?qc6 ?_)
  case qc1 => simp
  case qc2 =>
    intro j u hj
    have hjn : j < l.length := by simpa using (List.getElem?_eq_some_iff.1 hj).1
    refine Lib.cell?_alloc_some _ ?_
    rw [A.out j hjn]
    have e : (l.map (Value.int .i64))[j]? = some (Value.int .i64 (l.getD j default)) := by simp [List.getD, List.getElem?_eq_getElem hjn]
    rw [e] at hj
    exact hj
  case qc3 => intro u hu; obtain ⟨x, _, rfl⟩ := List.mem_map.1 hu; rfl
  case qc4 => unfold maxLen; omega
  case qc5 => omega
  case qc6 => simp
  intro v' w1 hown hgrow hnil
  go_wp2
  go_ret
  refine ⟨v', rfl, by simpa using hown, ?_⟩
  exact ((Below.refl _ w).alloc (Nat.le_refl _) _).grown hgrow (by simp) (by intro k hk; simp [Value.ownBlock] at hk; omega)

/-- slices.Clone hands the same list back, in new memory. -/
theorem cloneInts_soft {S : Nat → Prop} (v : Value) (l : List Int) (w : World) (h : IntsIn S w v l) :
    Calls Try.prog 50 #[v] w fun e w' => ∃ v', e = .returned v' ∧ IntsIn (fun b => w.heap.size ≤ b ∧ Soft w' b) w' v' l ∧ Below w.heap.size w w' := by
  obtain ⟨ao, c, rfl, hl, hc⟩ := h
  cases ao with
  | none =>
    have h0 : l.length = 0 := by
      by_cases h : 0 < l.length
      · obtain ⟨b, off, ha, _⟩ := hc h; cases ha
      · omega
    refine (cloneInts_nil _ c w).mono fun e w' ⟨he, hw⟩ => ⟨_, he, ⟨none, 0, by rw [h0], ⟨hl.1, by omega⟩, fun h => by omega⟩, ?_⟩
    rw [hw]; exact Below.refl _ _
  | some ad =>
    refine (cloneInts_some ad c l w hl.1 (fun j hj => ?_)).mono fun e w' ⟨v', he, hown, hb⟩ => ⟨v', he, ?_, hb⟩
    · obtain ⟨b, off, ha, _, hcc⟩ := hc (by omega)
      cases ha
      rw [Addr.add_lit]
      exact hcc j hj
    · rcases hown.2 with ⟨hv, hn⟩ | ⟨g, cap, cur, hv, hg, hh, hcap, hm, hsz, ht⟩
      · exact ⟨none, 0, by rw [hv, hn], ⟨hl.1, by omega⟩, fun h => by omega⟩
      · refine ⟨some ⟨g, 0, none⟩, cap, hv, ⟨hl.1, hcap⟩, fun _ => ⟨g, 0, rfl, ⟨hg, fun o => by unfold World.frozen?; simp only [hh]; simp⟩, fun j hj => ?_⟩⟩
        have := hown.cells (g := g) (by rw [hv]; rfl) j (.int .i64 (l.getD j default)) (by simp [List.getD, List.getElem?_eq_getElem hj])
        rw [Addr.add_lit] at this
        exact this
theorem cloneInts_any {S : Nat → Prop} (v : Value) (l : List Int) (w : World) (h : IntsIn S w v l) :
    Calls Try.prog 50 #[v] w fun e w' => ∃ v', e = .returned v' ∧ IntsIn (fun b => w.heap.size ≤ b) w' v' l ∧ Below w.heap.size w w' :=
  (cloneInts_soft v l w h).mono fun e w' ⟨v', he, h1, h2⟩ => ⟨v', he, h1.keep (fun _ _ _ => rfl) (fun _ _ hb => hb.1), h2⟩
open Go.RowKit Go.Lib

theorem Try.infoOp : (Try.prog.info? 49).map (fun i => (i.zero, i.size, i.bytes)) = some (some (.agg #[.int .i64 0, .string ByteArray.empty, .int .i64 0, .slice none 0 0, .bool false, .bool false]), 6, 64) := by kernel_rfl

theorem opRow_keep (S T : Nat → Prop) (w w' : World) (cs : List Value) (x : MOp) (h : OpRow S w cs x) (hk : KeepsIn S w w') (hT : ∀ b, b < w.heap.size → S b → T b) : OpRow T w' cs x := h.keep hk hT

set_option maxHeartbeats 2000000 in
set_option maxRecDepth 100000 in
theorem ops_walk {S : Nat → Prop} (a1 : Option Addr) (c1 n : Nat) (xs : List MOp) (w : World) (hx : xs.length = n) (hbytes : n * 64 ≤ 140737488355328)
    (h1 : RowCells 6 (OpRow S w) w a1 xs n) :
    Calls Try.prog 54 #[.slice a1 n c1] w fun e w' => ∃ v', e = .returned v' ∧ OpsOwn (fun b => w.heap.size ≤ b) w' v' xs ∧ Below w.heap.size w w' := by
  obtain ⟨i0, hi, hz0, hz1, hz2⟩ := info_parts Try.infoOp
  have HX : Hid (xs.length = n) := hx
  clear hx
  go_enter Try.func54, Try.ntmps54
  go_wp2
  go_loopg [3, 5, 8] n (fun g v _ i wr => ∃ (k : Nat) (rows : List (List Value)), k ≤ n ∧ n - k ≤ g ∧ i = .int .i64 k ∧ Aside (Below w.heap.size w wr) ∧ Aside (OutInv 49 6 OpSoft w.heap.size wr v k rows (xs.take k)))
  case atStart => exact ⟨0, [], Nat.zero_le _, by omega, rfl, Below.refl _ _, OutInv.nil _ _ _ _ _⟩
  case round =>
    obtain ⟨k, rows, hk, hg, rfl, BW, I⟩ := hrel
    by_cases hlt : k < n
    · have hlti : (k : Int) < (n : Int) := by omega
      obtain ⟨b1, o1, cs1, rfl, hb1, _, ⟨l1, rfl, i1⟩, k1⟩ := h1 k hlt
      clear h1
      have d0 : wr.cell? ⟨b1, o1 + k * 6, none⟩ = _ := (BW.out.cell (p := ⟨b1, o1 + k * 6, none⟩) hb1).trans (k1 0 _ rfl)
      have d1 := (BW.out.cell (p := ⟨b1, o1 + k * 6 + 1, none⟩) hb1).trans (k1 1 _ rfl)
      have d2 := (BW.out.cell (p := ⟨b1, o1 + k * 6 + 2, none⟩) hb1).trans (k1 2 _ rfl)
      have d3 := (BW.out.cell (p := ⟨b1, o1 + k * 6 + 3, none⟩) hb1).trans (k1 3 _ rfl)
      have d4 := (BW.out.cell (p := ⟨b1, o1 + k * 6 + 4, none⟩) hb1).trans (k1 4 _ rfl)
      have d5 := (BW.out.cell (p := ⟨b1, o1 + k * 6 + 5, none⟩) hb1).trans (k1 5 _ rfl)
      clear k1
      have hsz := BW.out.size
      have j1 := i1.keep (keeps_below BW.out) (fun _ _ h => h)
      clear i1
      have HT : Hid (xs.take (k + 1) = xs.take k ++ [xs.getD k default]) := by
        show xs.take (k + 1) = _
        rw [List.take_succ_eq_append_getElem (by rw [HX.out]; exact hlt)]
        simp [List.getD, List.getElem?_eq_getElem (show k < xs.length by rw [HX.out]; exact hlt)]
      generalize xs.getD k default = X at *
      obtain ⟨xk, xs1, xv, xl, xh, xn⟩ := X
      simp only [MOp.kind, MOp.key, MOp.value, MOp.list, MOp.has, MOp.nl] at *
      obtain ⟨al1, cl1, rfl, -⟩ := id j1
      go_wp2_with fail
      refine (cloneInts_soft (S := S) _ xl _ (j1.keep (keeps_below ((Below.refl _ wr).alloc (Nat.le_refl _) _)) (fun _ _ h => h))).mono ?_
      rintro e w1 ⟨v1, rfl, hv1, hb⟩
      clear d0 d1 d2 d3 d4 d5 j1
      obtain ⟨al, cl, rfl, -⟩ := id hv1
      have hs1 : wr.heap.size + 1 ≤ w1.heap.size := by have := hb.size; simpa using this
      have f0 : w1.cell? ⟨wr.heap.size, 0, none⟩ = some (.int .i64 xk) := (hb.cell (p := ⟨wr.heap.size, 0, none⟩) (by simp)).trans (by simp)
      have f1 : w1.cell? ⟨wr.heap.size, 1, none⟩ = some (.string xs1) := (hb.cell (p := ⟨wr.heap.size, 1, none⟩) (by simp)).trans (by simp)
      have f2 : w1.cell? ⟨wr.heap.size, 2, none⟩ = some (.int .i64 xv) := (hb.cell (p := ⟨wr.heap.size, 2, none⟩) (by simp)).trans (by simp)
      have f3 : w1.cell? ⟨wr.heap.size, 3, none⟩ = some (.slice al1 xl.length cl1) := (hb.cell (p := ⟨wr.heap.size, 3, none⟩) (by simp)).trans (by simp)
      have f4 : w1.cell? ⟨wr.heap.size, 4, none⟩ = some (.bool xh) := (hb.cell (p := ⟨wr.heap.size, 4, none⟩) (by simp)).trans (by simp)
      have f5 : w1.cell? ⟨wr.heap.size, 5, none⟩ = some (.bool xn) := (hb.cell (p := ⟨wr.heap.size, 5, none⟩) (by simp)).trans (by simp)
      have z3 : w1.frozen? ⟨wr.heap.size, 3, none⟩ = false := (hb.frozen (p := ⟨wr.heap.size, 3, none⟩) (by simp)).trans (by simp)
      have HV := hid hv1
      have HB := hid hb
      clear hv1 hb
      have B1 : Below wr.heap.size wr w1 := ((Below.refl _ wr).alloc (Nat.le_refl _) _).trans (HB.out.mono (by simp))
      have HB1 := hid B1
      clear B1
      go_wp2_with (at_builtin; refine wpList_append_lies _ rfl _ _ 45 rfl w.heap.size 49 i0 _ 6 64 Try.underlying45 hi hz0 hz1 hz2 rfl (by decide) u3 k rows.flatten rfl ?hown ⟨w1.heap.size, 0, none⟩ 1 1 [.int .i64 xk, .string xs1, .int .i64 xv, .slice al xl.length cl, .bool xh, .bool xn] rfl rfl ?hnews ?hone (by decide) ?h63 ?hby ?hbase (w1.heap.size + 1) ?hH ?_)
      case hown => exact I.out.own3 ((HB1.out.setCell (Nat.le_refl _) _).alloc (by simp [World.setCell]; omega) _)
      case hnews => exact World.news_of_block (by simpa [World.setCell] using heap_alloc_new (w1.setCell ⟨wr.heap.size, 3, none⟩ (.slice al xl.length cl)) (.cells #[.int .i64 xk, .string xs1, .int .i64 xv, .slice al xl.length cl, .bool xh, .bool xn] 49))
      case hone => intro u hu; simp at hu; rcases hu with rfl | rfl | rfl | rfl | rfl | rfl <;> rfl
      case h63 => unfold maxLen; omega
      case hby => omega
      case hbase => simp [World.setCell]; omega
      case hH => simp [World.setCell]
      intro g cap w4 hown4 hgrow hat hglt
      have B3 : Below wr.heap.size wr ((w1.setCell ⟨wr.heap.size, 3, none⟩ (.slice al xl.length cl)).alloc (.cells #[.int .i64 xk, .string xs1, .int .i64 xv, .slice al xl.length cl, .bool xh, .bool xn] 49)) := (HB1.out.setCell (Nat.le_refl _) _).alloc (by simp [World.setCell]; omega) _
      have hrow : OpSoft (fun b => wr.heap.size < b) ((w1.setCell ⟨wr.heap.size, 3, none⟩ (.slice al xl.length cl)).alloc (.cells #[.int .i64 xk, .string xs1, .int .i64 xv, .slice al xl.length cl, .bool xh, .bool xn] 49)) [.int .i64 xk, .string xs1, .int .i64 xv, .slice al xl.length cl, .bool xh, .bool xn] ⟨xk, xs1, xv, xl, xh, xn⟩ := by
        refine ⟨_, rfl, HV.out.keep (fun b hb hbl => ?_) (fun b hbl hb => ?_)⟩
        · have hb' : wr.heap.size + 1 ≤ b := by simpa using hb.1
          rw [Below.heap_alloc _ _ _ (by simpa [World.setCell] using hbl), Below.heap_setCell _ _ _ _ (by simp; omega)]
        · have hb' : wr.heap.size + 1 ≤ b := by simpa using hb.1
          refine ⟨by omega, hb.2.keep ?_⟩
          rw [Below.heap_alloc _ _ _ (by simpa [World.setCell] using hbl), Below.heap_setCell _ _ _ _ (by simp; omega)]
      have hbw4 : Below w.heap.size w w4 := BW.out.trans ((B3.mono hsz).grown hgrow (by simp [World.setCell]; omega) (fun x hx => (I.out.own.lt x hx).1))
      have I4 := hid (OutInv.step opSoft_keep I.out hsz B3 hrow rfl hown4 hgrow (by simpa [World.setCell] using hat))
      have HBW4 := hid hbw4
      clear hown4 hgrow hat B3 hrow hbw4 f0 f1 f2 f3 f4 f5 z3
      go_wp2_with fail
      go_roundg (n - (k + 1))
      case measure => omega
      case rel => exact ⟨k + 1, rows ++ [_], by omega, by omega, by go_num, HBW4.out, (by show OutInv _ _ _ _ _ _ _ _ _; rw [HT.out]; exact I4.out)⟩
    · go_wp2
      go_ret
      have hkn : k = n := by omega
      subst hkn
      rw [← HX.out, List.take_length, HX.out] at I
      exact ⟨_, rfl, OutInv.rows_own (bytes := 64) opSoft_keep I.out hbytes, BW.out⟩

/-- Ops hands the same operations back, in new memory. -/
theorem ops_any {S : Nat → Prop} (v : Value) (l : List MOp) (w : World) (h : OpsIn S w v l) :
    Calls Try.prog 54 #[v] w fun e w' => ∃ v', e = .returned v' ∧ OpsOwn (fun b => w.heap.size ≤ b) w' v' l ∧ Below w.heap.size w w' := by
  obtain ⟨a1, c1, rfl, l1, k1⟩ := RowsIn.cells h (by omega)
  exact ops_walk a1 c1 l.length l w rfl l1.1 k1


theorem OpsOwn.keep {S T : Nat → Prop} {w w' : World} {v : Value} {l : List MOp} (h : OpsOwn S w v l) (hk : KeepsIn S w w') (hT : ∀ b, b < w.heap.size → S b → T b) : OpsOwn T w' v l := RowsOwn.keep opSoft_keep (by omega) h hk hT
theorem OpsOwn.ops {S : Nat → Prop} {w : World} {v : Value} {l : List MOp} (h : OpsOwn S w v l) : OpsIn S w v l := RowsIn.keep (RowsOwn.rows opSoft_keep h) (by omega) (fun _ _ hr => OpRow.keep hr (fun _ _ _ => rfl) (fun _ _ hb => hb.1)) (fun _ _ _ => rfl) (fun _ _ hb => hb)
end Go.Proofs.Ytnfbcmnlloipiaa.Tx
