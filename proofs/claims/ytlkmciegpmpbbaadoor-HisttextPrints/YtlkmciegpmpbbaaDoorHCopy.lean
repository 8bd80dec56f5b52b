/-
  Walks of assayerplain's Events and of what it calls: a history in new memory.
-/
import Derived.Test.YtlkmciegpmpbbaaDoorHSame
import Derived.Deep.AppendLies
import Derived.Lib.SliceRun
import Derived.Lib.Walk
import Derived.Deep.RegionHeld3
import Derived.Deep.DrawnRows
namespace Go.Proofs.YtlkmciegpmpbbaaDoor
set_option linter.unusedVariables false
set_option linter.unusedSimpArgs false
open Go.RowKit Go.Lib

theorem Tryd.infoInt : (Tryd.prog.info? 3).map (fun i => (i.zero, i.size, i.bytes)) = some (some (.int .i64 0), 1, 8) := by kernel_rfl

theorem cloneInts_nil (n c : Nat) (w : World) :
    Calls Tryd.prog 23 #[.slice none n c] w fun e w' => e = .returned (.slice none 0 0) ∧ w' = w := by
  have q22 : ∀ (w : World) (a : Option Addr) (n c n' c' : Nat), (binOp .eql 32 (.slice a n c) (.slice none n' c')).run Tryd.prog w = .ok (.bool a.isNone) w := fun w a n c n' c' => Lib.run_eql_slice_nil w _ _ a n c n' c' Tryd.underlying32
  go_enter Tryd.func23, Tryd.ntmps23
  go_wp2
  go_ret
  exact ⟨rfl, rfl⟩

set_option maxHeartbeats 2000000 in
set_option maxRecDepth 100000 in
theorem cloneInts_some (ad : Addr) (c : Nat) (l : List Int) (w : World) (hbig : l.length * 8 ≤ 140737488355328) (hc : ∀ j, j < l.length → w.cell? (ad.add j) = some (.int .i64 (l.getD j default))) :
    Calls Tryd.prog 23 #[.slice (some ad) l.length c] w fun e w' => ∃ v', e = .returned v' ∧ w'.ownsRow w.heap.size 3 1 v' l.length (l.map (Value.int .i64)) ∧ Below w.heap.size w w' := by
  obtain ⟨i0, hi, hz0, hz1, hz2⟩ := info_parts Tryd.infoInt
  have q22 : ∀ (w : World) (a : Option Addr) (n c n' c' : Nat), (binOp .eql 32 (.slice a n c) (.slice none n' c')).run Tryd.prog w = .ok (.bool a.isNone) w := fun w a n c n' c' => Lib.run_eql_slice_nil w _ _ a n c n' c' Tryd.underlying32
  have u22 : ∀ w, Sem.run Tryd.prog (underlying 32) w = .ok (TypeDesc.slice 3) w := run_underlying Tryd.underlying32
  have A := hid hc
  clear hc
  go_enter Tryd.func23, Tryd.ntmps23
  go_wp2_with (at_builtin; refine wpList_append_own _ rfl _ _ 32 rfl w.heap.size 3 i0 (.int .i64 0) 1 8 Tryd.underlying32 hi hz0 hz1 hz2 rfl (by decide) _ _ _ rfl (World.ownsRow_made w #[] 0 (Nat.le_refl _) (Nat.zero_le _) rfl) ad l.length c (l.map (Value.int .i64)) rfl ?qc1 ?qc2 ?qc3 ?qc4 ?qc5 ?qc6 ?_)
  case qc1 => simp
  case qc2 =>
    intro j u hj
    have hjn : j < l.length := by simpa using (List.getElem?_eq_some_iff.1 hj).1
    refine Lib.cell?_alloc_some _ ?_
    rw [A.out j hjn]
    have e : (l.map (Value.int .i64))[j]? = some (Value.int .i64 (l.getD j default)) := by simp [List.getD, List.getElem?_eq_getElem hjn]
    rw [e] at hj
    exact hj
  case qc3 => intro u hu; obtain ⟨x, _, rfl⟩ := List.mem_map.1 hu; rfl
  case qc4 => unfold maxLen; omega
  case qc5 => omega
  case qc6 => simp
  intro v' w1 hown hgrow hnil
  go_wp2
  go_ret
  refine ⟨v', rfl, by simpa using hown, ?_⟩
  exact ((Below.refl _ w).alloc (Nat.le_refl _) _).grown hgrow (by simp) (by intro k hk; simp [Value.ownBlock] at hk; omega)

/-- slices.Clone hands the same list back, in new memory. -/
theorem cloneInts_any {S : Nat → Prop} (v : Value) (l : List Int) (w : World) (h : IntsIn S w v l) :
    Calls Tryd.prog 23 #[v] w fun e w' => ∃ v', e = .returned v' ∧ IntsIn (fun b => w.heap.size ≤ b) w' v' l ∧ Below w.heap.size w w' := by
  obtain ⟨ao, c, rfl, hl, hc⟩ := h
  cases ao with
  | none =>
    have h0 : l.length = 0 := by
      by_cases h : 0 < l.length
      · obtain ⟨b, off, ha, _⟩ := hc h; cases ha
      · omega
    refine (cloneInts_nil _ c w).mono fun e w' ⟨he, hw⟩ => ⟨_, he, ⟨none, 0, by rw [h0], hl, fun h => by omega⟩, ?_⟩
    rw [hw]; exact Below.refl _ _
  | some ad =>
    refine (cloneInts_some ad c l w hl (fun j hj => ?_)).mono fun e w' ⟨v', he, hown, hb⟩ => ⟨v', he, ?_, hb⟩
    · obtain ⟨b, off, ha, _, hcc⟩ := hc (by omega)
      cases ha
      rw [Addr.add_lit]
      exact hcc j hj
    · rcases hown.2 with ⟨hv, hn⟩ | ⟨g, cap, cur, hv, hg, hh, hcap, hm, hsz, ht⟩
      · exact ⟨none, 0, by rw [hv, hn], hl, fun h => by omega⟩
      · refine ⟨some ⟨g, 0, none⟩, cap, hv, hl, fun _ => ⟨g, 0, rfl, hg, fun j hj => ?_⟩⟩
        have := hown.cells (g := g) (by rw [hv]; rfl) j (.int .i64 (l.getD j default)) (by simp [List.getD, List.getElem?_eq_getElem hj])
        rw [Addr.add_lit] at this
        exact this
open Go.RowKit Go.Lib

theorem Tryd.infoOp : (Tryd.prog.info? 34).map (fun i => (i.zero, i.size, i.bytes)) = some (some (.agg #[.int .i64 0, .string ByteArray.empty, .int .i64 0, .slice none 0 0, .bool false, .bool false]), 6, 64) := by kernel_rfl

theorem opRow_keep (S T : Nat → Prop) (w w' : World) (cs : List Value) (x : MOp) (h : OpRow S w cs x) (hk : KeepsIn S w w') (hT : ∀ b, b < w.heap.size → S b → T b) : OpRow T w' cs x := h.keep hk hT

set_option maxHeartbeats 2000000 in
set_option maxRecDepth 100000 in
theorem ops_walk {S : Nat → Prop} (a1 : Option Addr) (c1 n : Nat) (xs : List MOp) (w : World) (hx : xs.length = n) (hbytes : n * 64 ≤ 140737488355328)
    (h1 : RowCells 6 (OpRow S w) w a1 xs n) :
    Calls Tryd.prog 10 #[.slice a1 n c1] w fun e w' => ∃ v', e = .returned v' ∧ OpsIn (fun b => w.heap.size ≤ b) w' v' xs ∧ Below w.heap.size w w' := by
  obtain ⟨i0, hi, hz0, hz1, hz2⟩ := info_parts Tryd.infoOp
  have HX : Hid (xs.length = n) := hx
  clear hx
  go_enter Tryd.func10, Tryd.ntmps10
  go_wp2
  go_loopg [3, 5, 8] n (fun g v _ i wr => ∃ (k : Nat) (rows : List (List Value)), k ≤ n ∧ n - k ≤ g ∧ i = .int .i64 k ∧ Aside (Below w.heap.size w wr) ∧ Aside (OutInv 34 6 OpRow w.heap.size wr v k rows (xs.take k)))
  case atStart => exact ⟨0, [], Nat.zero_le _, by omega, rfl, Below.refl _ _, OutInv.nil _ _ _ _ _⟩
  case round =>
    obtain ⟨k, rows, hk, hg, rfl, BW, I⟩ := hrel
    by_cases hlt : k < n
    · have hlti : (k : Int) < (n : Int) := by omega
      obtain ⟨b1, o1, cs1, rfl, hb1, _, ⟨l1, rfl, i1⟩, k1⟩ := h1 k hlt
      clear h1
      have d0 : wr.cell? ⟨b1, o1 + k * 6, none⟩ = _ := (BW.out.cell (p := ⟨b1, o1 + k * 6, none⟩) hb1).trans (k1 0 _ rfl)
      have d1 := (BW.out.cell (p := ⟨b1, o1 + k * 6 + 1, none⟩) hb1).trans (k1 1 _ rfl)
      have d2 := (BW.out.cell (p := ⟨b1, o1 + k * 6 + 2, none⟩) hb1).trans (k1 2 _ rfl)
      have d3 := (BW.out.cell (p := ⟨b1, o1 + k * 6 + 3, none⟩) hb1).trans (k1 3 _ rfl)
      have d4 := (BW.out.cell (p := ⟨b1, o1 + k * 6 + 4, none⟩) hb1).trans (k1 4 _ rfl)
      have d5 := (BW.out.cell (p := ⟨b1, o1 + k * 6 + 5, none⟩) hb1).trans (k1 5 _ rfl)
      clear k1
      have hsz := BW.out.size
      have j1 := i1.keep (keeps_below BW.out) (fun _ _ h => h)
      clear i1
      have HT : Hid (xs.take (k + 1) = xs.take k ++ [xs.getD k default]) := by
        show xs.take (k + 1) = _
        rw [List.take_succ_eq_append_getElem (by rw [HX.out]; exact hlt)]
        simp [List.getD, List.getElem?_eq_getElem (show k < xs.length by rw [HX.out]; exact hlt)]
      generalize xs.getD k default = X at *
      obtain ⟨xk, xs1, xv, xl, xh, xn⟩ := X
      simp only [MOp.kind, MOp.key, MOp.value, MOp.list, MOp.has, MOp.nl] at *
      obtain ⟨al1, cl1, rfl, -⟩ := id j1
      go_wp2_with fail
      refine (cloneInts_any (S := S) _ xl _ (j1.keep (keeps_below ((Below.refl _ wr).alloc (Nat.le_refl _) _)) (fun _ _ h => h))).mono ?_
      rintro e w1 ⟨v1, rfl, hv1, hb⟩
      clear d0 d1 d2 d3 d4 d5 j1
      obtain ⟨al, cl, rfl, -⟩ := id hv1
      have hs1 : wr.heap.size + 1 ≤ w1.heap.size := by have := hb.size; simpa using this
      have f0 : w1.cell? ⟨wr.heap.size, 0, none⟩ = some (.int .i64 xk) := (hb.cell (p := ⟨wr.heap.size, 0, none⟩) (by simp)).trans (by simp)
      have f1 : w1.cell? ⟨wr.heap.size, 1, none⟩ = some (.string xs1) := (hb.cell (p := ⟨wr.heap.size, 1, none⟩) (by simp)).trans (by simp)
      have f2 : w1.cell? ⟨wr.heap.size, 2, none⟩ = some (.int .i64 xv) := (hb.cell (p := ⟨wr.heap.size, 2, none⟩) (by simp)).trans (by simp)
      have f3 : w1.cell? ⟨wr.heap.size, 3, none⟩ = some (.slice al1 xl.length cl1) := (hb.cell (p := ⟨wr.heap.size, 3, none⟩) (by simp)).trans (by simp)
      have f4 : w1.cell? ⟨wr.heap.size, 4, none⟩ = some (.bool xh) := (hb.cell (p := ⟨wr.heap.size, 4, none⟩) (by simp)).trans (by simp)
      have f5 : w1.cell? ⟨wr.heap.size, 5, none⟩ = some (.bool xn) := (hb.cell (p := ⟨wr.heap.size, 5, none⟩) (by simp)).trans (by simp)
      have z3 : w1.frozen? ⟨wr.heap.size, 3, none⟩ = false := (hb.frozen (p := ⟨wr.heap.size, 3, none⟩) (by simp)).trans (by simp)
      have HV := hid hv1
      have HB := hid hb
      clear hv1 hb
      have B1 : Below wr.heap.size wr w1 := ((Below.refl _ wr).alloc (Nat.le_refl _) _).trans (HB.out.mono (by simp))
      have HB1 := hid B1
      clear B1
      go_wp2_with (at_builtin; refine wpList_append_lies _ rfl _ _ 27 rfl w.heap.size 34 i0 _ 6 64 Tryd.underlying27 hi hz0 hz1 hz2 rfl (by decide) u3 k rows.flatten rfl ?hown ⟨w1.heap.size, 0, none⟩ 1 1 [.int .i64 xk, .string xs1, .int .i64 xv, .slice al xl.length cl, .bool xh, .bool xn] rfl rfl ?hnews ?hone (by decide) ?h63 ?hby ?hbase (w1.heap.size + 1) ?hH ?_)
      case hown => exact I.out.own3 ((HB1.out.setCell (Nat.le_refl _) _).alloc (by simp [World.setCell]; omega) _)
      case hnews => exact World.news_of_block (by simpa [World.setCell] using heap_alloc_new (w1.setCell ⟨wr.heap.size, 3, none⟩ (.slice al xl.length cl)) (.cells #[.int .i64 xk, .string xs1, .int .i64 xv, .slice al xl.length cl, .bool xh, .bool xn] 34))
      case hone => intro u hu; simp at hu; rcases hu with rfl | rfl | rfl | rfl | rfl | rfl <;> rfl
      case h63 => unfold maxLen; omega
      case hby => omega
      case hbase => simp [World.setCell]; omega
      case hH => simp [World.setCell]
      intro g cap w4 hown4 hgrow hat hglt
      have B3 : Below wr.heap.size wr ((w1.setCell ⟨wr.heap.size, 3, none⟩ (.slice al xl.length cl)).alloc (.cells #[.int .i64 xk, .string xs1, .int .i64 xv, .slice al xl.length cl, .bool xh, .bool xn] 34)) := (HB1.out.setCell (Nat.le_refl _) _).alloc (by simp [World.setCell]; omega) _
      have hrow : OpRow (fun b => wr.heap.size < b) ((w1.setCell ⟨wr.heap.size, 3, none⟩ (.slice al xl.length cl)).alloc (.cells #[.int .i64 xk, .string xs1, .int .i64 xv, .slice al xl.length cl, .bool xh, .bool xn] 34)) [.int .i64 xk, .string xs1, .int .i64 xv, .slice al xl.length cl, .bool xh, .bool xn] ⟨xk, xs1, xv, xl, xh, xn⟩ := by
        refine ⟨_, rfl, HV.out.keep (fun b hb hbl => ?_) (fun b _ hb => ?_)⟩
        · have hb' : wr.heap.size + 1 ≤ b := by simpa using hb
          rw [Below.heap_alloc _ _ _ (by simpa [World.setCell] using hbl), Below.heap_setCell _ _ _ _ (by simp; omega)]
        · have hb' : wr.heap.size + 1 ≤ b := by simpa using hb
          omega
      have hbw4 : Below w.heap.size w w4 := BW.out.trans ((B3.mono hsz).grown hgrow (by simp [World.setCell]; omega) (fun x hx => (I.out.own.lt x hx).1))
      have I4 := hid (OutInv.step opRow_keep I.out hsz B3 hrow rfl hown4 hgrow (by simpa [World.setCell] using hat))
      have HBW4 := hid hbw4
      clear hown4 hgrow hat B3 hrow hbw4 f0 f1 f2 f3 f4 f5 z3
      go_wp2_with fail
      go_roundg (n - (k + 1))
      case measure => omega
      case rel => exact ⟨k + 1, rows ++ [_], by omega, by omega, by go_num, HBW4.out, (by show OutInv _ _ _ _ _ _ _ _ _; rw [HT.out]; exact I4.out)⟩
    · go_wp2
      go_ret
      have hkn : k = n := by omega
      subst hkn
      rw [← HX.out, List.take_length, HX.out] at I
      exact ⟨_, rfl, OutInv.rows_in (bytes := 64) opRow_keep I.out hbytes, BW.out⟩
open Go.RowKit Go.Lib
attribute [local go_sem ↓] Go.wp_at_zero Go.wp_at_succ

/-- Ops hands the same operations back, in new memory. -/
theorem ops_any {S : Nat → Prop} (v : Value) (l : List MOp) (w : World) (h : OpsIn S w v l) :
    Calls Tryd.prog 10 #[v] w fun e w' => ∃ v', e = .returned v' ∧ OpsIn (fun b => w.heap.size ≤ b) w' v' l ∧ Below w.heap.size w w' := by
  obtain ⟨a1, c1, rfl, l1, k1⟩ := RowsIn.cells h (by omega)
  exact ops_walk a1 c1 l.length l w rfl l1 k1

theorem Tryd.infoEv : (Tryd.prog.info? 29).map (fun i => (i.zero, i.size, i.bytes)) = some (some (.agg #[.int .i64 0, .int .i64 0, .slice none 0 0]), 3, 40) := by kernel_rfl

theorem evRow_keep (S T : Nat → Prop) (w w' : World) (cs : List Value) (x : MEv) (h : EvRow S w cs x) (hk : KeepsIn S w w') (hT : ∀ b, b < w.heap.size → S b → T b) : EvRow T w' cs x := h.keep hk hT

set_option maxHeartbeats 4000000 in
set_option maxRecDepth 100000 in
theorem events_walk {S : Nat → Prop} (a1 : Option Addr) (c1 n : Nat) (xs : List MEv) (w : World) (hx : xs.length = n) (hbytes : n * 40 ≤ 140737488355328)
    (h1 : RowCells 3 (EvRow S w) w a1 xs n) :
    Calls Tryd.prog 4 #[.slice a1 n c1] w fun e w' => ∃ v', e = .returned v' ∧ EvsIn (fun b => w.heap.size ≤ b) w' v' xs ∧ Below w.heap.size w w' := by
  obtain ⟨i0, hi, hz0, hz1, hz2⟩ := info_parts Tryd.infoEv
  have HX : Hid (xs.length = n) := hx
  clear hx
  go_enter Tryd.func4, Tryd.ntmps4
  go_wp2
  go_loopg [3, 5, 8] n (fun g v _ i wr => ∃ (k : Nat) (rows : List (List Value)), k ≤ n ∧ n - k ≤ g ∧ i = .int .i64 k ∧ Aside (Below w.heap.size w wr) ∧ Aside (OutInv 29 3 EvRow w.heap.size wr v k rows (xs.take k)))
  case atStart => exact ⟨0, [], Nat.zero_le _, by omega, rfl, Below.refl _ _, OutInv.nil _ _ _ _ _⟩
  case round =>
    obtain ⟨k, rows, hk, hg, rfl, BW, I⟩ := hrel
    by_cases hlt : k < n
    · have hlti : (k : Int) < (n : Int) := by omega
      obtain ⟨b1, o1, cs1, rfl, hb1, _, ⟨l1, rfl, i1⟩, k1⟩ := h1 k hlt
      clear h1
      have d0 : wr.cell? ⟨b1, o1 + k * 3, none⟩ = _ := (BW.out.cell (p := ⟨b1, o1 + k * 3, none⟩) hb1).trans (k1 0 _ rfl)
      have d1 := (BW.out.cell (p := ⟨b1, o1 + k * 3 + 1, none⟩) hb1).trans (k1 1 _ rfl)
      have d2 := (BW.out.cell (p := ⟨b1, o1 + k * 3 + 2, none⟩) hb1).trans (k1 2 _ rfl)
      clear k1
      have hsz := BW.out.size
      have j1 := i1.keep (keeps_below BW.out) (fun _ _ h => h)
      clear i1
      have HT : Hid (xs.take (k + 1) = xs.take k ++ [xs.getD k default]) := by
        show xs.take (k + 1) = _
        rw [List.take_succ_eq_append_getElem (by rw [HX.out]; exact hlt)]
        simp [List.getD, List.getElem?_eq_getElem (show k < xs.length by rw [HX.out]; exact hlt)]
      generalize xs.getD k default = X at *
      obtain ⟨xk, xp, xl⟩ := X
      simp only [MEv.kind, MEv.proc, MEv.ops] at *
      obtain ⟨al1, cl1, rfl, -⟩ := id j1
      have H : Hid (∀ W, Below (wr.heap.size + 1) (wr.alloc (.cells #[.int .i64 xk, .int .i64 xp, .slice al1 xl.length cl1] 29)) W → Calls Tryd.prog 10 #[.slice al1 xl.length cl1] W fun e w' => ∃ al cl, e = .returned (.slice al xl.length cl) ∧ OpsIn (fun b => wr.heap.size + 1 ≤ b) w' (.slice al xl.length cl) xl ∧ Below (wr.heap.size + 1) (wr.alloc (.cells #[.int .i64 xk, .int .i64 xp, .slice al1 xl.length cl1] 29)) w') := fun W hW => by
        have hsW : wr.heap.size + 1 ≤ W.heap.size := by have := hW.size; simpa using this
        have B0 : Below wr.heap.size wr W := ((Below.refl _ wr).alloc (Nat.le_refl _) _).trans (hW.mono (by omega))
        refine (ops_any _ xl W (j1.keep (keeps_below B0) (fun _ _ h => h))).mono fun e w' ⟨v', he, ho, hb⟩ => ?_
        obtain ⟨al, cl, hv, -⟩ := id ho
        subst hv
        exact ⟨al, cl, he, ho.keep (fun _ _ _ => rfl) (fun b _ hb => by omega), hW.trans (hb.mono hsW)⟩
      clear j1
      go_wp2_with fail
      clear d0 d1 d2
      go_region_held3 (fun w' => w'.cell? ⟨wr.heap.size, 0, none⟩ = some (.int .i64 xk) ∧ w'.cell? ⟨wr.heap.size, 1, none⟩ = some (.int .i64 xp) ∧ w'.cell? ⟨wr.heap.size, 2, none⟩ = some (.slice al1 xl.length cl1))
        (first
          | go_keep
          | exact ⟨q0, q1, q2⟩
          | exact ⟨fc0 _, fc1 _, fc2 _⟩
          | exact ⟨(hgrow.cell_far _ (by simp; omega) hfar).trans (fc0 _), (hgrow.cell_far _ (by simp; omega) hfar).trans (fc1 _), (hgrow.cell_far _ (by simp; omega) hfar).trans (fc2 _)⟩)
        ((first
          | (go_at_call 10
             refine (H.out _ (by repeat (first | exact Below.refl _ _ | apply Below.drew))).mono ?_
             rintro e w1 ⟨al, cl, rfl, hv1, hb⟩
             have hs1 : wr.heap.size + 1 ≤ w1.heap.size := by have := hb.size; simpa using this
             have q0 : w1.cell? ⟨wr.heap.size, 0, none⟩ = some (.int .i64 xk) := (hb.cell (p := ⟨wr.heap.size, 0, none⟩) (by simp)).trans (by simp)
             have q1 : w1.cell? ⟨wr.heap.size, 1, none⟩ = some (.int .i64 xp) := (hb.cell (p := ⟨wr.heap.size, 1, none⟩) (by simp)).trans (by simp)
             have q2 : w1.cell? ⟨wr.heap.size, 2, none⟩ = some (.slice al1 xl.length cl1) := (hb.cell (p := ⟨wr.heap.size, 2, none⟩) (by simp)).trans (by simp)
             have fc0 : ∀ o, (w1.alloc o).cell? ⟨wr.heap.size, 0, none⟩ = some (.int .i64 xk) := fun o => Lib.cell?_alloc_some _ q0
             have fc1 : ∀ o, (w1.alloc o).cell? ⟨wr.heap.size, 1, none⟩ = some (.int .i64 xp) := fun o => Lib.cell?_alloc_some _ q1
             have fc2 : ∀ o, (w1.alloc o).cell? ⟨wr.heap.size, 2, none⟩ = some (.slice al1 xl.length cl1) := fun o => Lib.cell?_alloc_some _ q2
             have HV := hid hv1
             have HB1 : Hid (Below wr.heap.size wr w1) := ((Below.refl _ wr).alloc (Nat.le_refl _) _).trans (hb.mono (by omega))
             have hfar : some wr.heap.size ≠ u3.ownBlock := fun e => by have := (I.out.own.lt _ e.symm).2; omega
             clear hv1 hb)
          | (refine step_append_lies _ (by rfl) _ _ 22 (by rfl) w.heap.size 29 i0 _ 3 40 Tryd.underlying22 hi hz0 hz1 hz2 rfl (by decide) u3 k rows.flatten (by rfl) (I.out.own3 (HB1.out.alloc (by omega) _)) ⟨w1.heap.size, 0, none⟩ 1 1 [.int .i64 xk, .int .i64 xp, .slice al xl.length cl] (by rfl) (by rfl) (World.news_of_block (cs := #[.int .i64 xk, .int .i64 xp, .slice al xl.length cl]) (t := 29) (fr := (0, 0)) (heap_alloc_new w1 _)) (by simp [Value.oneCell']) (by decide) (by unfold maxLen; omega) (by omega) (by simp; omega) (w1.heap.size + 1) (by simp) ?_
             intro g cap w4 hown4 hgrow hat hglt)))
      have hs1' : wr.heap.size + 1 ≤ w1.heap.size := hs1
      have B3 : Below wr.heap.size wr (w1.alloc (.cells #[.int .i64 xk, .int .i64 xp, .slice al xl.length cl] 29)) := HB1.out.alloc (by omega) _
      have hrow : EvRow (fun b => wr.heap.size < b) (w1.alloc (.cells #[.int .i64 xk, .int .i64 xp, .slice al xl.length cl] 29)) [.int .i64 xk, .int .i64 xp, .slice al xl.length cl] ⟨xk, xp, xl⟩ :=
        ⟨_, rfl, HV.out.keep (fun b _ hbl => Below.heap_alloc _ _ _ hbl) (fun b _ hb => by omega)⟩
      have hbw4 : Below w.heap.size w w4 := BW.out.trans ((B3.mono hsz).grown hgrow (by simp; omega) (fun x hx => (I.out.own.lt x hx).1))
      have I4 := hid (OutInv.step evRow_keep I.out hsz B3 hrow rfl hown4 hgrow (by simpa using hat))
      have HBW4 := hid hbw4
      clear hown4 hgrow hat B3 hrow hbw4 q0 q1 q2 fc0 fc1 fc2 hfar
      go_wp2_with fail
      go_roundg (n - (k + 1))
      case measure => omega
      case rel => exact ⟨k + 1, rows ++ [_], by omega, by omega, by go_num, HBW4.out, (by show OutInv _ _ _ _ _ _ _ _ _; rw [HT.out]; exact I4.out)⟩
    · go_wp2
      go_ret
      have hkn : k = n := by omega
      subst hkn
      rw [← HX.out, List.take_length, HX.out] at I
      exact ⟨_, rfl, OutInv.rows_in (bytes := 40) evRow_keep I.out hbytes, BW.out⟩
/-- Events hands the same history back, in new memory. -/
theorem events_any {S : Nat → Prop} (v : Value) (l : List MEv) (w : World) (h : EvsIn S w v l) :
    Calls Tryd.prog 4 #[v] w fun e w' => ∃ v', e = .returned v' ∧ EvsIn (fun b => w.heap.size ≤ b) w' v' l ∧ Below w.heap.size w w' := by
  obtain ⟨a1, c1, rfl, l1, k1⟩ := RowsIn.cells h (by omega)
  exact events_walk a1 c1 l.length l w rfl l1 k1
end Go.Proofs.YtlkmciegpmpbbaaDoor
