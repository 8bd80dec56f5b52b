/-
  Walks of assayerplain's Events and of what it calls: a history in new memory.
  The library's contract for what strings.Clone calls, at this program: one application of the library's theorem.
  Operations in memory of their own; ops.Copy.
  Whether a history is well formed, plain: what the events so far have told, and what is wrong with the next one.
-/
import Derived.Test.YtjobdfgcgnpppaaDoorJ1
import Derived.Deep.AppendLies
import Derived.Lib.SliceRun
import Derived.Lib.Walk
import Derived.Deep.RegionHeld3
import Derived.Deep.DrawnRows
import Derived.Shelf.Strconv.Clone
import Derived.Shelf.LaysM
import Derived.Test.YtjobdfgcgnpppaaDoorProg
namespace Go.Proofs.YtjobdfgcgnpppaaDoor
set_option linter.unusedVariables false
set_option linter.unusedSimpArgs false
open Go.RowKit Go.Lib

theorem Tryd.infoInt : (Tryd.prog.info? 3).map (fun i => (i.zero, i.size, i.bytes)) = some (some (.int .i64 0), 1, 8) := by kernel_rfl

theorem cloneInts_nil (n c : Nat) (w : World) :
    Calls Tryd.prog 31 #[.slice none n c] w fun e w' => e = .returned (.slice none 0 0) ∧ w' = w := by
  have q22 : ∀ (w : World) (a : Option Addr) (n c n' c' : Nat), (binOp .eql 74 (.slice a n c) (.slice none n' c')).run Tryd.prog w = .ok (.bool a.isNone) w := fun w a n c n' c' => Lib.run_eql_slice_nil w _ _ a n c n' c' Tryd.underlying74
  go_enter Tryd.func31, Tryd.ntmps31
  go_wp2
  go_ret
  exact ⟨rfl, rfl⟩

set_option maxHeartbeats 2000000 in
set_option maxRecDepth 100000 in
theorem cloneInts_some (ad : Addr) (c : Nat) (l : List Int) (w : World) (hbig : l.length * 8 ≤ 140737488355328) (hc : ∀ j, j < l.length → w.cell? (ad.add j) = some (.int .i64 (l.getD j default))) :
    Calls Tryd.prog 31 #[.slice (some ad) l.length c] w fun e w' => ∃ v', e = .returned v' ∧ w'.ownsRow w.heap.size 3 1 v' l.length (l.map (Value.int .i64)) ∧ Below w.heap.size w w' := by
  obtain ⟨i0, hi, hz0, hz1, hz2⟩ := info_parts Tryd.infoInt
  have q22 : ∀ (w : World) (a : Option Addr) (n c n' c' : Nat), (binOp .eql 74 (.slice a n c) (.slice none n' c')).run Tryd.prog w = .ok (.bool a.isNone) w := fun w a n c n' c' => Lib.run_eql_slice_nil w _ _ a n c n' c' Tryd.underlying74
  have u22 : ∀ w, Sem.run Tryd.prog (underlying 74) w = .ok (TypeDesc.slice 3) w := run_underlying Tryd.underlying74
  have A := hid hc
  clear hc
  go_enter Tryd.func31, Tryd.ntmps31
  go_wp2_with (at_builtin; refine wpList_append_own _ rfl _ _ 74 rfl w.heap.size 3 i0 (.int .i64 0) 1 8 Tryd.underlying74 hi hz0 hz1 hz2 rfl (by decide) _ _ _ rfl (World.ownsRow_made w #[] 0 (Nat.le_refl _) (Nat.zero_le _) rfl) ad l.length c (l.map (Value.int .i64)) rfl ?qc1 ?qc2 ?qc3 ?qc4 ?qc5 ?qc6 ?_)
  case qc1 => simp
  case qc2 =>
    intro j u hj
    have hjn : j < l.length := by simpa using (List.getElem?_eq_some_iff.1 hj).1
    refine Lib.cell?_alloc_some _ ?_
    rw [A.out j hjn]
    have e : (l.map (Value.int .i64))[j]? = some (Value.int .i64 (l.getD j default)) := by simp [List.getD, List.getElem?_eq_getElem hjn]
    rw [e] at hj
    exact hj
  case qc3 => intro u hu; obtain ⟨x, _, rfl⟩ := List.mem_map.1 hu; rfl
  case qc4 => unfold maxLen; omega
  case qc5 => omega
  case qc6 => simp
  intro v' w1 hown hgrow hnil
  go_wp2
  go_ret
  refine ⟨v', rfl, by simpa using hown, ?_⟩
  exact ((Below.refl _ w).alloc (Nat.le_refl _) _).grown hgrow (by simp) (by intro k hk; simp [Value.ownBlock] at hk; omega)

/-- slices.Clone hands the same list back, in new memory. -/
theorem cloneInts_any {S : Nat → Prop} (v : Value) (l : List Int) (w : World) (h : IntsIn S w v l) :
    Calls Tryd.prog 31 #[v] w fun e w' => ∃ v', e = .returned v' ∧ IntsIn (fun b => w.heap.size ≤ b) w' v' l ∧ Below w.heap.size w w' := by
  obtain ⟨ao, c, rfl, hl, hc⟩ := h
  cases ao with
  | none =>
    have h0 : l.length = 0 := by
      by_cases h : 0 < l.length
      · obtain ⟨b, off, ha, _⟩ := hc h; cases ha
      · omega
    refine (cloneInts_nil _ c w).mono fun e w' ⟨he, hw⟩ => ⟨_, he, ⟨none, 0, by rw [h0], hl, fun h => by omega⟩, ?_⟩
    rw [hw]; exact Below.refl _ _
  | some ad =>
    refine (cloneInts_some ad c l w hl (fun j hj => ?_)).mono fun e w' ⟨v', he, hown, hb⟩ => ⟨v', he, ?_, hb⟩
    · obtain ⟨b, off, ha, _, hcc⟩ := hc (by omega)
      cases ha
      rw [Addr.add_lit]
      exact hcc j hj
    · rcases hown.2 with ⟨hv, hn⟩ | ⟨g, cap, cur, hv, hg, hh, hcap, hm, hsz, ht⟩
      · exact ⟨none, 0, by rw [hv, hn], hl, fun h => by omega⟩
      · refine ⟨some ⟨g, 0, none⟩, cap, hv, hl, fun _ => ⟨g, 0, rfl, hg, fun j hj => ?_⟩⟩
        have := hown.cells (g := g) (by rw [hv]; rfl) j (.int .i64 (l.getD j default)) (by simp [List.getD, List.getElem?_eq_getElem hj])
        rw [Addr.add_lit] at this
        exact this
open Go.RowKit Go.Lib

theorem Tryd.infoOp : (Tryd.prog.info? 76).map (fun i => (i.zero, i.size, i.bytes)) = some (some (.agg #[.int .i64 0, .string ByteArray.empty, .int .i64 0, .slice none 0 0, .bool false, .bool false]), 6, 64) := by kernel_rfl

theorem opRow_keep (S T : Nat → Prop) (w w' : World) (cs : List Value) (x : MOp) (h : OpRow S w cs x) (hk : KeepsIn S w w') (hT : ∀ b, b < w.heap.size → S b → T b) : OpRow T w' cs x := h.keep hk hT

set_option maxHeartbeats 2000000 in
set_option maxRecDepth 100000 in
theorem ops_walk {S : Nat → Prop} (a1 : Option Addr) (c1 n : Nat) (xs : List MOp) (w : World) (hx : xs.length = n) (hbytes : n * 64 ≤ 140737488355328)
    (h1 : RowCells 6 (OpRow S w) w a1 xs n) :
    Calls Tryd.prog 18 #[.slice a1 n c1] w fun e w' => ∃ v', e = .returned v' ∧ OpsIn (fun b => w.heap.size ≤ b) w' v' xs ∧ Below w.heap.size w w' := by
  obtain ⟨i0, hi, hz0, hz1, hz2⟩ := info_parts Tryd.infoOp
  have HX : Hid (xs.length = n) := hx
  clear hx
  go_enter Tryd.func18, Tryd.ntmps18
  go_wp2
  go_loopg [3, 5, 8] n (fun g v _ i wr => ∃ (k : Nat) (rows : List (List Value)), k ≤ n ∧ n - k ≤ g ∧ i = .int .i64 k ∧ Aside (Below w.heap.size w wr) ∧ Aside (OutInv 76 6 OpRow w.heap.size wr v k rows (xs.take k)))
  case atStart => exact ⟨0, [], Nat.zero_le _, by omega, rfl, Below.refl _ _, OutInv.nil _ _ _ _ _⟩
  case round =>
    obtain ⟨k, rows, hk, hg, rfl, BW, I⟩ := hrel
    by_cases hlt : k < n
    · have hlti : (k : Int) < (n : Int) := by omega
      obtain ⟨b1, o1, cs1, rfl, hb1, _, ⟨l1, rfl, i1⟩, k1⟩ := h1 k hlt
      clear h1
      have d0 : wr.cell? ⟨b1, o1 + k * 6, none⟩ = _ := (BW.out.cell (p := ⟨b1, o1 + k * 6, none⟩) hb1).trans (k1 0 _ rfl)
      have d1 := (BW.out.cell (p := ⟨b1, o1 + k * 6 + 1, none⟩) hb1).trans (k1 1 _ rfl)
      have d2 := (BW.out.cell (p := ⟨b1, o1 + k * 6 + 2, none⟩) hb1).trans (k1 2 _ rfl)
      have d3 := (BW.out.cell (p := ⟨b1, o1 + k * 6 + 3, none⟩) hb1).trans (k1 3 _ rfl)
      have d4 := (BW.out.cell (p := ⟨b1, o1 + k * 6 + 4, none⟩) hb1).trans (k1 4 _ rfl)
      have d5 := (BW.out.cell (p := ⟨b1, o1 + k * 6 + 5, none⟩) hb1).trans (k1 5 _ rfl)
      clear k1
      have hsz := BW.out.size
      have j1 := i1.keep (keeps_below BW.out) (fun _ _ h => h)
      clear i1
      have HT : Hid (xs.take (k + 1) = xs.take k ++ [xs.getD k default]) := by
        show xs.take (k + 1) = _
        rw [List.take_succ_eq_append_getElem (by rw [HX.out]; exact hlt)]
        simp [List.getD, List.getElem?_eq_getElem (show k < xs.length by rw [HX.out]; exact hlt)]
      generalize xs.getD k default = X at *
      obtain ⟨xk, xs1, xv, xl, xh, xn⟩ := X
      simp only [MOp.kind, MOp.key, MOp.value, MOp.list, MOp.has, MOp.nl] at *
      obtain ⟨al1, cl1, rfl, -⟩ := id j1
      go_wp2_with fail
      refine (cloneInts_any (S := S) _ xl _ (j1.keep (keeps_below ((Below.refl _ wr).alloc (Nat.le_refl _) _)) (fun _ _ h => h))).mono ?_
      rintro e w1 ⟨v1, rfl, hv1, hb⟩
      clear d0 d1 d2 d3 d4 d5 j1
      obtain ⟨al, cl, rfl, -⟩ := id hv1
      have hs1 : wr.heap.size + 1 ≤ w1.heap.size := by have := hb.size; simpa using this
      have f0 : w1.cell? ⟨wr.heap.size, 0, none⟩ = some (.int .i64 xk) := (hb.cell (p := ⟨wr.heap.size, 0, none⟩) (by simp)).trans (by simp)
      have f1 : w1.cell? ⟨wr.heap.size, 1, none⟩ = some (.string xs1) := (hb.cell (p := ⟨wr.heap.size, 1, none⟩) (by simp)).trans (by simp)
      have f2 : w1.cell? ⟨wr.heap.size, 2, none⟩ = some (.int .i64 xv) := (hb.cell (p := ⟨wr.heap.size, 2, none⟩) (by simp)).trans (by simp)
      have f3 : w1.cell? ⟨wr.heap.size, 3, none⟩ = some (.slice al1 xl.length cl1) := (hb.cell (p := ⟨wr.heap.size, 3, none⟩) (by simp)).trans (by simp)
      have f4 : w1.cell? ⟨wr.heap.size, 4, none⟩ = some (.bool xh) := (hb.cell (p := ⟨wr.heap.size, 4, none⟩) (by simp)).trans (by simp)
      have f5 : w1.cell? ⟨wr.heap.size, 5, none⟩ = some (.bool xn) := (hb.cell (p := ⟨wr.heap.size, 5, none⟩) (by simp)).trans (by simp)
      have z3 : w1.frozen? ⟨wr.heap.size, 3, none⟩ = false := (hb.frozen (p := ⟨wr.heap.size, 3, none⟩) (by simp)).trans (by simp)
      have HV := hid hv1
      have HB := hid hb
      clear hv1 hb
      have B1 : Below wr.heap.size wr w1 := ((Below.refl _ wr).alloc (Nat.le_refl _) _).trans (HB.out.mono (by simp))
      have HB1 := hid B1
      clear B1
      go_wp2_with (at_builtin; refine wpList_append_lies _ rfl _ _ 40 rfl w.heap.size 76 i0 _ 6 64 Tryd.underlying40 hi hz0 hz1 hz2 rfl (by decide) u3 k rows.flatten rfl ?hown ⟨w1.heap.size, 0, none⟩ 1 1 [.int .i64 xk, .string xs1, .int .i64 xv, .slice al xl.length cl, .bool xh, .bool xn] rfl rfl ?hnews ?hone (by decide) ?h63 ?hby ?hbase (w1.heap.size + 1) ?hH ?_)
      case hown => exact I.out.own3 ((HB1.out.setCell (Nat.le_refl _) _).alloc (by simp [World.setCell]; omega) _)
      case hnews => exact World.news_of_block (by simpa [World.setCell] using heap_alloc_new (w1.setCell ⟨wr.heap.size, 3, none⟩ (.slice al xl.length cl)) (.cells #[.int .i64 xk, .string xs1, .int .i64 xv, .slice al xl.length cl, .bool xh, .bool xn] 76))
      case hone => intro u hu; simp at hu; rcases hu with rfl | rfl | rfl | rfl | rfl | rfl <;> rfl
      case h63 => unfold maxLen; omega
      case hby => omega
      case hbase => simp [World.setCell]; omega
      case hH => simp [World.setCell]
      intro g cap w4 hown4 hgrow hat hglt
      have B3 : Below wr.heap.size wr ((w1.setCell ⟨wr.heap.size, 3, none⟩ (.slice al xl.length cl)).alloc (.cells #[.int .i64 xk, .string xs1, .int .i64 xv, .slice al xl.length cl, .bool xh, .bool xn] 76)) := (HB1.out.setCell (Nat.le_refl _) _).alloc (by simp [World.setCell]; omega) _
      have hrow : OpRow (fun b => wr.heap.size < b) ((w1.setCell ⟨wr.heap.size, 3, none⟩ (.slice al xl.length cl)).alloc (.cells #[.int .i64 xk, .string xs1, .int .i64 xv, .slice al xl.length cl, .bool xh, .bool xn] 76)) [.int .i64 xk, .string xs1, .int .i64 xv, .slice al xl.length cl, .bool xh, .bool xn] ⟨xk, xs1, xv, xl, xh, xn⟩ := by
        refine ⟨_, rfl, HV.out.keep (fun b hb hbl => ?_) (fun b _ hb => ?_)⟩
        · have hb' : wr.heap.size + 1 ≤ b := by simpa using hb
          rw [Below.heap_alloc _ _ _ (by simpa [World.setCell] using hbl), Below.heap_setCell _ _ _ _ (by simp; omega)]
        · have hb' : wr.heap.size + 1 ≤ b := by simpa using hb
          omega
      have hbw4 : Below w.heap.size w w4 := BW.out.trans ((B3.mono hsz).grown hgrow (by simp [World.setCell]; omega) (fun x hx => (I.out.own.lt x hx).1))
      have I4 := hid (OutInv.step opRow_keep I.out hsz B3 hrow rfl hown4 hgrow (by simpa [World.setCell] using hat))
      have HBW4 := hid hbw4
      clear hown4 hgrow hat B3 hrow hbw4 f0 f1 f2 f3 f4 f5 z3
      go_wp2_with fail
      go_roundg (n - (k + 1))
      case measure => omega
      case rel => exact ⟨k + 1, rows ++ [_], by omega, by omega, by go_num, HBW4.out, (by show OutInv _ _ _ _ _ _ _ _ _; rw [HT.out]; exact I4.out)⟩
    · go_wp2
      go_ret
      have hkn : k = n := by omega
      subst hkn
      rw [← HX.out, List.take_length, HX.out] at I
      exact ⟨_, rfl, OutInv.rows_in (bytes := 64) opRow_keep I.out hbytes, BW.out⟩
open Go.RowKit Go.Lib
attribute [local go_sem ↓] Go.wp_at_zero Go.wp_at_succ

/-- Ops hands the same operations back, in new memory. -/
theorem ops_any {S : Nat → Prop} (v : Value) (l : List MOp) (w : World) (h : OpsIn S w v l) :
    Calls Tryd.prog 18 #[v] w fun e w' => ∃ v', e = .returned v' ∧ OpsIn (fun b => w.heap.size ≤ b) w' v' l ∧ Below w.heap.size w w' := by
  obtain ⟨a1, c1, rfl, l1, k1⟩ := RowsIn.cells h (by omega)
  exact ops_walk a1 c1 l.length l w rfl l1 k1

theorem Tryd.infoEv : (Tryd.prog.info? 42).map (fun i => (i.zero, i.size, i.bytes)) = some (some (.agg #[.int .i64 0, .int .i64 0, .slice none 0 0]), 3, 40) := by kernel_rfl

theorem evRow_keep (S T : Nat → Prop) (w w' : World) (cs : List Value) (x : MEv) (h : EvRow S w cs x) (hk : KeepsIn S w w') (hT : ∀ b, b < w.heap.size → S b → T b) : EvRow T w' cs x := h.keep hk hT

set_option maxHeartbeats 4000000 in
set_option maxRecDepth 100000 in
theorem events_walk {S : Nat → Prop} (a1 : Option Addr) (c1 n : Nat) (xs : List MEv) (w : World) (hx : xs.length = n) (hbytes : n * 40 ≤ 140737488355328)
    (h1 : RowCells 3 (EvRow S w) w a1 xs n) :
    Calls Tryd.prog 9 #[.slice a1 n c1] w fun e w' => ∃ v', e = .returned v' ∧ EvsIn (fun b => w.heap.size ≤ b) w' v' xs ∧ Below w.heap.size w w' := by
  obtain ⟨i0, hi, hz0, hz1, hz2⟩ := info_parts Tryd.infoEv
  have HX : Hid (xs.length = n) := hx
  clear hx
  go_enter Tryd.func9, Tryd.ntmps9
  go_wp2
  go_loopg [3, 5, 8] n (fun g v _ i wr => ∃ (k : Nat) (rows : List (List Value)), k ≤ n ∧ n - k ≤ g ∧ i = .int .i64 k ∧ Aside (Below w.heap.size w wr) ∧ Aside (OutInv 42 3 EvRow w.heap.size wr v k rows (xs.take k)))
  case atStart => exact ⟨0, [], Nat.zero_le _, by omega, rfl, Below.refl _ _, OutInv.nil _ _ _ _ _⟩
  case round =>
    obtain ⟨k, rows, hk, hg, rfl, BW, I⟩ := hrel
    by_cases hlt : k < n
    · have hlti : (k : Int) < (n : Int) := by omega
      obtain ⟨b1, o1, cs1, rfl, hb1, _, ⟨l1, rfl, i1⟩, k1⟩ := h1 k hlt
      clear h1
      have d0 : wr.cell? ⟨b1, o1 + k * 3, none⟩ = _ := (BW.out.cell (p := ⟨b1, o1 + k * 3, none⟩) hb1).trans (k1 0 _ rfl)
      have d1 := (BW.out.cell (p := ⟨b1, o1 + k * 3 + 1, none⟩) hb1).trans (k1 1 _ rfl)
      have d2 := (BW.out.cell (p := ⟨b1, o1 + k * 3 + 2, none⟩) hb1).trans (k1 2 _ rfl)
      clear k1
      have hsz := BW.out.size
      have j1 := i1.keep (keeps_below BW.out) (fun _ _ h => h)
      clear i1
      have HT : Hid (xs.take (k + 1) = xs.take k ++ [xs.getD k default]) := by
        show xs.take (k + 1) = _
        rw [List.take_succ_eq_append_getElem (by rw [HX.out]; exact hlt)]
        simp [List.getD, List.getElem?_eq_getElem (show k < xs.length by rw [HX.out]; exact hlt)]
      generalize xs.getD k default = X at *
      obtain ⟨xk, xp, xl⟩ := X
      simp only [MEv.kind, MEv.proc, MEv.ops] at *
      obtain ⟨al1, cl1, rfl, -⟩ := id j1
      have H : Hid (∀ W, Below (wr.heap.size + 1) (wr.alloc (.cells #[.int .i64 xk, .int .i64 xp, .slice al1 xl.length cl1] 42)) W → Calls Tryd.prog 18 #[.slice al1 xl.length cl1] W fun e w' => ∃ al cl, e = .returned (.slice al xl.length cl) ∧ OpsIn (fun b => wr.heap.size + 1 ≤ b) w' (.slice al xl.length cl) xl ∧ Below (wr.heap.size + 1) (wr.alloc (.cells #[.int .i64 xk, .int .i64 xp, .slice al1 xl.length cl1] 42)) w') := fun W hW => by
        have hsW : wr.heap.size + 1 ≤ W.heap.size := by have := hW.size; simpa using this
        have B0 : Below wr.heap.size wr W := ((Below.refl _ wr).alloc (Nat.le_refl _) _).trans (hW.mono (by omega))
        refine (ops_any _ xl W (j1.keep (keeps_below B0) (fun _ _ h => h))).mono fun e w' ⟨v', he, ho, hb⟩ => ?_
        obtain ⟨al, cl, hv, -⟩ := id ho
        subst hv
        exact ⟨al, cl, he, ho.keep (fun _ _ _ => rfl) (fun b _ hb => by omega), hW.trans (hb.mono hsW)⟩
      clear j1
      go_wp2_with fail
      clear d0 d1 d2
      go_region_held3 (fun w' => w'.cell? ⟨wr.heap.size, 0, none⟩ = some (.int .i64 xk) ∧ w'.cell? ⟨wr.heap.size, 1, none⟩ = some (.int .i64 xp) ∧ w'.cell? ⟨wr.heap.size, 2, none⟩ = some (.slice al1 xl.length cl1))
        (first
          | go_keep
          | exact ⟨q0, q1, q2⟩
          | exact ⟨fc0 _, fc1 _, fc2 _⟩
          | exact ⟨(hgrow.cell_far _ (by simp; omega) hfar).trans (fc0 _), (hgrow.cell_far _ (by simp; omega) hfar).trans (fc1 _), (hgrow.cell_far _ (by simp; omega) hfar).trans (fc2 _)⟩)
        ((first
          | (go_at_call 18
             refine (H.out _ (by repeat (first | exact Below.refl _ _ | apply Below.drew))).mono ?_
             rintro e w1 ⟨al, cl, rfl, hv1, hb⟩
             have hs1 : wr.heap.size + 1 ≤ w1.heap.size := by have := hb.size; simpa using this
             have q0 : w1.cell? ⟨wr.heap.size, 0, none⟩ = some (.int .i64 xk) := (hb.cell (p := ⟨wr.heap.size, 0, none⟩) (by simp)).trans (by simp)
             have q1 : w1.cell? ⟨wr.heap.size, 1, none⟩ = some (.int .i64 xp) := (hb.cell (p := ⟨wr.heap.size, 1, none⟩) (by simp)).trans (by simp)
             have q2 : w1.cell? ⟨wr.heap.size, 2, none⟩ = some (.slice al1 xl.length cl1) := (hb.cell (p := ⟨wr.heap.size, 2, none⟩) (by simp)).trans (by simp)
             have fc0 : ∀ o, (w1.alloc o).cell? ⟨wr.heap.size, 0, none⟩ = some (.int .i64 xk) := fun o => Lib.cell?_alloc_some _ q0
             have fc1 : ∀ o, (w1.alloc o).cell? ⟨wr.heap.size, 1, none⟩ = some (.int .i64 xp) := fun o => Lib.cell?_alloc_some _ q1
             have fc2 : ∀ o, (w1.alloc o).cell? ⟨wr.heap.size, 2, none⟩ = some (.slice al1 xl.length cl1) := fun o => Lib.cell?_alloc_some _ q2
             have HV := hid hv1
             have HB1 : Hid (Below wr.heap.size wr w1) := ((Below.refl _ wr).alloc (Nat.le_refl _) _).trans (hb.mono (by omega))
             have hfar : some wr.heap.size ≠ u3.ownBlock := fun e => by have := (I.out.own.lt _ e.symm).2; omega
             clear hv1 hb)
          | (refine step_append_lies _ (by rfl) _ _ 22 (by rfl) w.heap.size 42 i0 _ 3 40 Tryd.underlying22 hi hz0 hz1 hz2 rfl (by decide) u3 k rows.flatten (by rfl) (I.out.own3 (HB1.out.alloc (by omega) _)) ⟨w1.heap.size, 0, none⟩ 1 1 [.int .i64 xk, .int .i64 xp, .slice al xl.length cl] (by rfl) (by rfl) (World.news_of_block (cs := #[.int .i64 xk, .int .i64 xp, .slice al xl.length cl]) (t := 42) (fr := (0, 0)) (heap_alloc_new w1 _)) (by simp [Value.oneCell']) (by decide) (by unfold maxLen; omega) (by omega) (by simp; omega) (w1.heap.size + 1) (by simp) ?_
             intro g cap w4 hown4 hgrow hat hglt)))
      have hs1' : wr.heap.size + 1 ≤ w1.heap.size := hs1
      have B3 : Below wr.heap.size wr (w1.alloc (.cells #[.int .i64 xk, .int .i64 xp, .slice al xl.length cl] 42)) := HB1.out.alloc (by omega) _
      have hrow : EvRow (fun b => wr.heap.size < b) (w1.alloc (.cells #[.int .i64 xk, .int .i64 xp, .slice al xl.length cl] 42)) [.int .i64 xk, .int .i64 xp, .slice al xl.length cl] ⟨xk, xp, xl⟩ :=
        ⟨_, rfl, HV.out.keep (fun b _ hbl => Below.heap_alloc _ _ _ hbl) (fun b _ hb => by omega)⟩
      have hbw4 : Below w.heap.size w w4 := BW.out.trans ((B3.mono hsz).grown hgrow (by simp; omega) (fun x hx => (I.out.own.lt x hx).1))
      have I4 := hid (OutInv.step evRow_keep I.out hsz B3 hrow rfl hown4 hgrow (by simpa using hat))
      have HBW4 := hid hbw4
      clear hown4 hgrow hat B3 hrow hbw4 q0 q1 q2 fc0 fc1 fc2 hfar
      go_wp2_with fail
      go_roundg (n - (k + 1))
      case measure => omega
      case rel => exact ⟨k + 1, rows ++ [_], by omega, by omega, by go_num, HBW4.out, (by show OutInv _ _ _ _ _ _ _ _ _; rw [HT.out]; exact I4.out)⟩
    · go_wp2
      go_ret
      have hkn : k = n := by omega
      subst hkn
      rw [← HX.out, List.take_length, HX.out] at I
      exact ⟨_, rfl, OutInv.rows_in (bytes := 40) evRow_keep I.out hbytes, BW.out⟩
/-- Events hands the same history back, in new memory. -/
theorem events_any {S : Nat → Prop} (v : Value) (l : List MEv) (w : World) (h : EvsIn S w v l) :
    Calls Tryd.prog 9 #[v] w fun e w' => ∃ v', e = .returned v' ∧ EvsIn (fun b => w.heap.size ≤ b) w' v' l ∧ Below w.heap.size w w' := by
  obtain ⟨a1, c1, rfl, l1, k1⟩ := RowsIn.cells h (by omega)
  exact events_walk a1 c1 l.length l w rfl l1 k1
end Go.Proofs.YtjobdfgcgnpppaaDoor
namespace Go.Proofs
open Go.Shelf
def Tryd.laysM316_ren : Go.Shelf.Ren := ⟨fun | 316 => 69 | n => n, fun | 9 => 9 | 3 => 3 | 4 => 4 | 37 => 123 | 0 => 0 | 127 => 124 | 5 => 5 | n => n, fun | n => n⟩
theorem Tryd.laysM316 : Go.Proofs.LaysM.n316 Tryd.prog Tryd.laysM316_ren := {
  mixed := by kernel_rfl
  f316 := Tryd.func69.trans (congrArg some (by kernel_rfl))
  t0 := Tryd.underlying0
  a0 := Tryd.isAgg0
  z0 := Tryd.sizeOf0
  v0 := Tryd.zeroValue0
  t3 := Tryd.underlying3
  a3 := Tryd.isAgg3
  z3 := Tryd.sizeOf3
  v3 := Tryd.zeroValue3
  t4 := Tryd.underlying4
  a4 := Tryd.isAgg4
  z4 := Tryd.sizeOf4
  v4 := Tryd.zeroValue4
  t9 := Tryd.underlying9
  a9 := Tryd.isAgg9
  z9 := Tryd.sizeOf9
  v9 := Tryd.zeroValue9
  t37 := Tryd.underlying123
  a37 := Tryd.isAgg123
  z37 := Tryd.sizeOf123
  v37 := Tryd.zeroValue123
  t127 := Tryd.underlying124
  a127 := Tryd.isAgg124
  z127 := Tryd.sizeOf124
  v127 := Tryd.zeroValue124
  t5 := Tryd.underlying5
  a5 := Tryd.isAgg5
  z5 := Tryd.sizeOf5
  v5 := Tryd.zeroValue5
  i0 := by kernel_rfl
  i3 := by kernel_rfl
  i4 := by kernel_rfl
  i5 := by kernel_rfl
  i9 := by kernel_rfl
  i37 := by kernel_rfl
  i127 := by kernel_rfl }
open Go.RowKit in
/-- What strings.Clone calls hands back the same bytes. -/
theorem Tryd.stringslite_Clone (s : ByteArray) (w : World) (hlim : s.size ≤ 281474976710656) :
    Calls Tryd.prog 69 #[.string s] w fun e w' => e = .returned (.string s) ∧ Below w.heap.size w w' := Any.stringslite_Clone Tryd.laysM316 s w hlim
end Go.Proofs
namespace Go.Proofs.YtjobdfgcgnpppaaDoor
set_option linter.unusedVariables false
set_option linter.unusedSimpArgs false
open Go.RowKit Go.Lib

/-- A block that may be written. -/
def Soft (w : World) (b : Nat) : Prop := ∀ o, w.frozen? ⟨b, o, none⟩ = false
theorem Soft.keep {w w' : World} {b : Nat} (h : Soft w b) (e : w'.heap[b]? = w.heap[b]?) : Soft w' b := fun o => by
  have := h o
  unfold World.frozen? at *
  simp only [e]
  exact this
/-- A slice of elements of k cells in a block of its own; what they lead to lies elsewhere. -/
def RowsOwn {α : Type} [Inhabited α] (k bytes : Nat) (R : (Nat → Prop) → World → List Value → α → Prop) (S : Nat → Prop) (w : World) (v : Value) (l : List α) : Prop :=
  ∃ ao c, v = .slice ao l.length c ∧ (l.length * bytes ≤ 140737488355328 ∧ l.length ≤ c) ∧ (0 < l.length → ∃ b, ao = some ⟨b, 0, none⟩ ∧ S b ∧ (∀ o, w.frozen? ⟨b, o, none⟩ = false) ∧ ∀ j, j < l.length → ∃ cs, cs.length = k ∧ R (fun x => S x ∧ x ≠ b) w cs (l.getD j default) ∧ ∀ i u, cs[i]? = some u → w.cell? ⟨b, j * k + i, none⟩ = some u)
theorem frozen_of_block {w w' : World} {b : Nat} (h : w'.heap[b]? = w.heap[b]?) (o : Nat) : w'.frozen? ⟨b, o, none⟩ = w.frozen? ⟨b, o, none⟩ := by
  unfold World.frozen?
  simp only [h]
theorem RowsOwn.keep {α : Type} [Inhabited α] {k bytes : Nat} {R : (Nat → Prop) → World → List Value → α → Prop} {S T : Nat → Prop} {w w' : World} {v : Value} {l : List α} (hkeep : ∀ (S T : Nat → Prop) w w' cs x, R S w cs x → KeepsIn S w w' → (∀ b, b < w.heap.size → S b → T b) → R T w' cs x) (hk0 : 0 < k) (h : RowsOwn k bytes R S w v l) (hk : KeepsIn S w w') (hT : ∀ b, b < w.heap.size → S b → T b) : RowsOwn k bytes R T w' v l := by
  obtain ⟨ao, c, hv, hl, hc⟩ := h
  refine ⟨ao, c, hv, hl, fun h0 => ?_⟩
  obtain ⟨b, ha, hS, hf, hj⟩ := hc h0
  have hb : b < w.heap.size := by
    obtain ⟨cs, hlen, _, hcs⟩ := hj 0 h0
    exact World.block_lt_of_cell? _ _ (hcs 0 cs[0] (List.getElem?_eq_getElem (by omega)))
  refine ⟨b, ha, hT b hb hS, fun o => (frozen_of_block (hk b hS hb) o).trans (hf o), fun j h => ?_⟩
  obtain ⟨cs, hlen, hr, hcs⟩ := hj j h
  exact ⟨cs, hlen, hkeep _ _ _ _ _ _ hr (fun x hx hb => hk x hx.1 hb) (fun x hb hx => ⟨hT x hb hx.1, hx.2⟩), fun i u hi => hk.cell (p := ⟨b, j * k + i, none⟩) hS (hcs i u hi)⟩
theorem RowsOwn.rows {α : Type} [Inhabited α] {k bytes : Nat} {R : (Nat → Prop) → World → List Value → α → Prop} {S T : Nat → Prop} {w w' : World} {v : Value} {l : List α} (hkeep : ∀ (S T : Nat → Prop) w w' cs x, R S w cs x → KeepsIn S w w' → (∀ b, b < w.heap.size → S b → T b) → R T w' cs x) (h : RowsOwn k bytes R S w v l) : RowsIn k bytes (R S w) S w v l := by
  obtain ⟨ao, c, hv, hl, hc⟩ := h
  refine ⟨ao, c, hv, hl.1, fun h0 => ?_⟩
  obtain ⟨b, ha, hS, hf, hj⟩ := hc h0
  refine ⟨b, 0, ha, hS, fun j h => ?_⟩
  obtain ⟨cs, hlen, hr, hcs⟩ := hj j h
  exact ⟨cs, hlen, hkeep _ _ _ _ _ _ hr (fun x hx hb => rfl) (fun x hb hx => hx.1), fun i u hi => by rw [Nat.zero_add]; exact hcs i u hi⟩
/-- At the end: the list lies in a block of its own, from B on. -/
theorem OutInv.rows_own {α : Type} [Inhabited α] {R : (Nat → Prop) → World → List Value → α → Prop} {v : Value} {l : List α} {e size n B : Nat} {wr : World} {rows : List (List Value)} {bytes : Nat} (hkeep : ∀ (S T : Nat → Prop) w w' cs x, R S w cs x → KeepsIn S w w' → (∀ b, b < w.heap.size → S b → T b) → R T w' cs x)
    (h : OutInv e size R B wr v n rows l) (hbytes : n * bytes ≤ 140737488355328) : RowsOwn size bytes R (fun b => B ≤ b) wr v l := by
  have hl := h.ln
  subst hl
  rcases h.own.2 with ⟨hv, hn⟩ | ⟨g, cap, cur, hv, hg, hgg, hcap, _⟩
  · exact ⟨none, 0, by rw [hv, hn], ⟨hbytes, by omega⟩, fun h0 => by omega⟩
  · refine ⟨some ⟨g, 0, none⟩, cap, hv, ⟨hbytes, hcap⟩, fun _ => ⟨g, rfl, hg, fun o => by unfold World.frozen?; simp only [hgg]; simp, fun j hj => ?_⟩⟩
    have hjr : j < rows.length := by rw [h.rn]; exact hj
    have hmem : rows.getD j [] ∈ rows := by simp [List.getD, List.getElem?_eq_getElem hjr]
    refine ⟨rows.getD j [], h.sizes _ hmem, hkeep _ _ wr wr _ _ (h.each j hj) (fun _ _ _ => rfl) (fun b _ hb => ⟨hb.1, fun e => hb.2 (by rw [hv, e]; rfl)⟩), fun i u hi => ?_⟩
    have hil : i < size := by rw [← h.sizes _ hmem]; exact (List.getElem?_eq_some_iff.1 hi).1
    have := h.own.cells (g := g) (by rw [hv]; rfl) (j * size + i) u (by rw [flatten_get size rows j i h.sizes hjr hil]; exact hi)
    rw [Addr.add_lit] at this
    simpa using this
/-- The six cells of an operation whose list may be written. -/
def OpSoft (S : Nat → Prop) (w : World) (cs : List Value) (o : MOp) : Prop := OpRow (fun b => S b ∧ Soft w b) w cs o
theorem opSoft_keep (S T : Nat → Prop) (w w' : World) (cs : List Value) (x : MOp) (h : OpSoft S w cs x) (hk : KeepsIn S w w') (hT : ∀ b, b < w.heap.size → S b → T b) : OpSoft T w' cs x := OpRow.keep h (fun b hb hl => hk b hb.1 hl) (fun b hl hb => ⟨hT b hl hb.1, hb.2.keep (hk b hb.1 hl)⟩)
def OpsOwn (S : Nat → Prop) (w : World) (v : Value) (l : List MOp) : Prop := RowsOwn 6 64 OpSoft S w v l
/-- slices.Clone hands the same list back, in new memory. -/
theorem cloneInts_soft {S : Nat → Prop} (v : Value) (l : List Int) (w : World) (h : IntsIn S w v l) :
    Calls Tryd.prog 31 #[v] w fun e w' => ∃ v', e = .returned v' ∧ IntsIn (fun b => w.heap.size ≤ b ∧ Soft w' b) w' v' l ∧ Below w.heap.size w w' := by
  obtain ⟨ao, c, rfl, hl, hc⟩ := h
  cases ao with
  | none =>
    have h0 : l.length = 0 := by
      by_cases h : 0 < l.length
      · obtain ⟨b, off, ha, _⟩ := hc h; cases ha
      · omega
    refine (cloneInts_nil _ c w).mono fun e w' ⟨he, hw⟩ => ⟨_, he, ⟨none, 0, by rw [h0], hl, fun h => by omega⟩, ?_⟩
    rw [hw]; exact Below.refl _ _
  | some ad =>
    refine (cloneInts_some ad c l w hl (fun j hj => ?_)).mono fun e w' ⟨v', he, hown, hb⟩ => ⟨v', he, ?_, hb⟩
    · obtain ⟨b, off, ha, _, hcc⟩ := hc (by omega)
      cases ha
      rw [Addr.add_lit]
      exact hcc j hj
    · rcases hown.2 with ⟨hv, hn⟩ | ⟨g, cap, cur, hv, hg, hh, hcap, hm, hsz, ht⟩
      · exact ⟨none, 0, by rw [hv, hn], hl, fun h => by omega⟩
      · refine ⟨some ⟨g, 0, none⟩, cap, hv, hl, fun _ => ⟨g, 0, rfl, ⟨hg, fun o => by unfold World.frozen?; simp only [hh]; simp⟩, fun j hj => ?_⟩⟩
        have := hown.cells (g := g) (by rw [hv]; rfl) j (.int .i64 (l.getD j default)) (by simp [List.getD, List.getElem?_eq_getElem hj])
        rw [Addr.add_lit] at this
        exact this
theorem blt {w : World} {b : Nat} {o : Obj} (h : w.heap[b]? = some o) : b < w.heap.size := (Array.getElem?_eq_some_iff.1 h).1
theorem own_slice {B : Nat} {w : World} {e : TypeId} {z n : Nat} {v : Value} {xs : List Value} (h : w.ownsRow B e z v n xs) : ∃ a c, v = .slice a n c := by
  rcases h.2 with ⟨hv, hn⟩ | ⟨g, cap, cur, hv, _⟩
  · exact ⟨none, 0, by rw [hv, hn]⟩
  · exact ⟨_, cap, hv⟩
theorem set_ne {w : World} {p : Addr} {v : Value} {g : Nat} (h : g ≠ p.block) : (w.setCell p v).heap[g]? = w.heap[g]? := by
  unfold World.setCell
  simp [Array.getElem?_modify]
  intro c
  exact absurd c.symm h
/-- The rows of a slice, one by one. -/
theorem rows_pick {α : Type} [Inhabited α] {k : Nat} {R : List Value → α → Prop} {w : World} {ao : Option Addr} {l : List α} (h : RowCells k R w ao l l.length) :
    ∃ rows : List (List Value), rows.length = l.length ∧ (∀ r ∈ rows, r.length = k) ∧ ∀ j, j < l.length → R (rows.getD j []) (l.getD j default) ∧ ∃ b o, ao = some ⟨b, o, none⟩ ∧ b < w.heap.size ∧ ∀ i u, (rows.getD j [])[i]? = some u → w.cell? ⟨b, o + j * k + i, none⟩ = some u := by
  have ex : ∀ j, ∃ cs : List Value, j < l.length → cs.length = k ∧ R cs (l.getD j default) ∧ ∃ b o, ao = some ⟨b, o, none⟩ ∧ b < w.heap.size ∧ ∀ i u, cs[i]? = some u → w.cell? ⟨b, o + j * k + i, none⟩ = some u := fun j => by
    by_cases hj : j < l.length
    · obtain ⟨b, o, cs, h1, h2, h3, h4, h5⟩ := h j hj
      exact ⟨cs, fun _ => ⟨h3, h4, b, o, h1, h2, h5⟩⟩
    · exact ⟨[], fun c => absurd c hj⟩
  obtain ⟨f, hf⟩ := Classical.skolem.1 ex
  have e : ∀ j, j < l.length → ((List.range l.length).map f).getD j [] = f j := fun j hj => by simp [List.getD, hj]
  refine ⟨(List.range l.length).map f, by simp, fun r hr => ?_, fun j hj => ?_⟩
  · obtain ⟨j, hj, rfl⟩ := List.mem_map.1 hr
    exact (hf j (by simpa using hj)).1
  · rw [e j hj]
    exact (hf j hj).2
/-- Rows in a block of their own. -/
def Rows1 {α : Type} [Inhabited α] (k e : Nat) (R : List Value → α → Prop) (B : Nat) (w : World) (v : Value) (l : List α) : Prop :=
  ∃ rows : List (List Value), rows.length = l.length ∧ (∀ r ∈ rows, r.length = k) ∧ (∀ j, j < l.length → R (rows.getD j []) (l.getD j default)) ∧ w.ownsRow B e k v l.length rows.flatten
theorem Rows1.cell {α : Type} [Inhabited α] {k e : Nat} {R : List Value → α → Prop} {B : Nat} {w : World} {v : Value} {l : List α} (h : Rows1 k e R B w v l) (h0 : 0 < l.length) :
    ∃ g c, v = .slice (some ⟨g, 0, none⟩) l.length c ∧ l.length ≤ c ∧ B ≤ g ∧ g < w.heap.size ∧ (∃ cs, w.heap[g]? = some (.cells cs e (0, 0))) ∧ ∀ j, j < l.length → ∃ cs : List Value, cs.length = k ∧ R cs (l.getD j default) ∧ ∀ i u, cs[i]? = some u → w.cell? ⟨g, j * k + i, none⟩ = some u := by
  obtain ⟨rows, h1, h2, h3, h4⟩ := h
  have h4' := h4
  rcases h4.2 with ⟨hv, hn⟩ | ⟨g, cap, cur, hv, hB, hh, hc, _⟩
  · omega
  · subst hv
    refine ⟨g, cap, rfl, hc, hB, blt hh, ⟨_, hh⟩, fun j hj => ⟨rows.getD j [], ?_, h3 j hj, fun i u hi => ?_⟩⟩
    · exact h2 _ (by simp [List.getD, List.getElem?_eq_getElem (show j < rows.length by omega)])
    · have hil : i < k := by
        rw [← h2 _ (show rows.getD j [] ∈ rows by simp [List.getD, List.getElem?_eq_getElem (show j < rows.length by omega)])]
        exact (List.getElem?_eq_some_iff.1 hi).1
      have := h4'.cells (g := g) rfl (j * k + i) u (by rw [flatten_get k rows j i h2 (by omega) hil]; exact hi)
      rw [Addr.add_lit] at this
      simpa using this
theorem Tryd.infoO : (Tryd.prog.info? 76).map (fun i => (i.zero, i.size, i.bytes)) = some (some (.agg #[.int .i64 0, .string ByteArray.empty, .int .i64 0, .slice none 0 0, .bool false, .bool false]), 6, 64) := by kernel_rfl
theorem cloneO_nil (n c : Nat) (w : World) :
    Calls Tryd.prog 63 #[.slice none n c] w fun e w' => e = .returned (.slice none 0 0) ∧ w' = w := by
  have q22 : ∀ (w : World) (a : Option Addr) (n c n' c' : Nat), (binOp .eql 40 (.slice a n c) (.slice none n' c')).run Tryd.prog w = .ok (.bool a.isNone) w := fun w a n c n' c' => Lib.run_eql_slice_nil w _ _ a n c n' c' Tryd.underlying40
  go_enter Tryd.func63, Tryd.ntmps63
  go_wp2
  go_ret
  exact ⟨rfl, rfl⟩
set_option maxHeartbeats 2000000 in
set_option maxRecDepth 100000 in
theorem cloneO_some (ad : Addr) (n c : Nat) (xs : List Value) (w : World) (hx : xs.length = n * 6) (hbig : n * 64 ≤ 140737488355328) (hone : ∀ u ∈ xs, u.oneCell' = true) (hc : ∀ j u, xs[j]? = some u → w.cell? (ad.add j) = some u) :
    Calls Tryd.prog 63 #[.slice (some ad) n c] w fun e w' => ∃ v', e = .returned v' ∧ w'.ownsRow w.heap.size 76 6 v' n xs ∧ Below w.heap.size w w' := by
  obtain ⟨i0, hi, hz0, hz1, hz2⟩ := info_parts Tryd.infoO
  have q22 : ∀ (w : World) (a : Option Addr) (n c n' c' : Nat), (binOp .eql 40 (.slice a n c) (.slice none n' c')).run Tryd.prog w = .ok (.bool a.isNone) w := fun w a n c n' c' => Lib.run_eql_slice_nil w _ _ a n c n' c' Tryd.underlying40
  have A := hid hc
  have O := hid hone
  clear hc hone
  go_enter Tryd.func63, Tryd.ntmps63
  go_wp2_with (at_builtin; refine wpList_append_own _ rfl _ _ 40 rfl w.heap.size 76 i0 _ 6 64 Tryd.underlying40 hi hz0 hz1 hz2 rfl (by decide) _ _ _ rfl (World.ownsRow_made w #[] 0 (Nat.le_refl _) (Nat.zero_le _) rfl) ad n c xs rfl ?qc1 ?qc2 ?qc3 ?qc4 ?qc5 ?qc6 ?_)
  case qc1 => exact hx
  case qc2 => exact fun j u hj => Lib.cell?_alloc_some _ (A.out j u hj)
  case qc3 => exact O.out
  case qc4 => unfold maxLen; omega
  case qc5 => omega
  case qc6 => simp
  intro v' w1 hown hgrow hnil
  go_wp2
  go_ret
  refine ⟨v', rfl, by simpa using hown, ?_⟩
  exact ((Below.refl _ w).alloc (Nat.le_refl _) _).grown hgrow (by simp) (by intro k hk; simp [Value.ownBlock] at hk; omega)
/-- slices.Clone hands the same rows back, in a block of their own. -/
theorem cloneO_any {α : Type} [Inhabited α] {R : List Value → α → Prop} {S : Nat → Prop} (v : Value) (l : List α) (w : World) (h : RowsIn 6 64 R S w v l) (hone : ∀ cs x, R cs x → ∀ u ∈ cs, u.oneCell' = true) :
    Calls Tryd.prog 63 #[v] w fun e w' => ∃ v', e = .returned v' ∧ Rows1 6 76 R w.heap.size w' v' l ∧ Below w.heap.size w w' := by
  obtain ⟨ao, c, rfl, hl, hc⟩ := RowsIn.cells h (by omega)
  obtain ⟨rows, r1, r2, r3⟩ := rows_pick hc
  cases ao with
  | none =>
    have h0 : l.length = 0 := by
      by_cases h : 0 < l.length
      · obtain ⟨_, b, o, ha, _⟩ := r3 0 h; cases ha
      · omega
    refine (cloneO_nil _ c w).mono fun e w' ⟨he, hw⟩ => ⟨_, he, ⟨rows, r1, r2, fun j hj => (r3 j hj).1, ?_⟩, by rw [hw]; exact Below.refl _ _⟩
    have e0 : rows = [] := List.length_eq_zero_iff.1 (by omega)
    rw [e0, h0]
    exact World.ownsRow_nil _ _ _ _
  | some ad =>
    refine (cloneO_some ad l.length c rows.flatten w (by rw [flatten_len 6 rows r2, r1]) hl (fun u hu => ?_) (fun j u hj => ?_)).mono fun e w' ⟨v', he, hown, hb⟩ => ⟨v', he, ⟨rows, r1, r2, fun j hj => (r3 j hj).1, hown⟩, hb⟩
    · obtain ⟨r, hr, hu2⟩ := List.mem_flatten.1 hu
      obtain ⟨j, hj, e⟩ := List.mem_iff_getElem.1 hr
      have e2 : rows.getD j [] = r := by simp [List.getD, List.getElem?_eq_getElem hj, e]
      exact hone _ _ (by have := (r3 j (by omega)).1; rw [e2] at this; exact this) u hu2
    · have hjl : j < rows.flatten.length := (List.getElem?_eq_some_iff.1 hj).1
      rw [flatten_len 6 rows r2, r1] at hjl
      have hd : j / 6 < l.length := by omega
      have hm : j % 6 < 6 := Nat.mod_lt _ (by decide)
      have ej : j / 6 * 6 + j % 6 = j := by omega
      obtain ⟨_, b, o, ha, _, hcell⟩ := r3 (j / 6) hd
      rw [← ej, flatten_get 6 rows _ _ r2 (by omega) hm] at hj
      cases ha
      have := hcell (j % 6) u hj
      rw [Addr.add_lit]
      rw [← this]
      congr 2
      omega
/-- strings.Clone: the same text. -/
theorem sclone_is (s : ByteArray) (w : World) (hs : s.size ≤ 281474976710656) : Calls Tryd.prog 64 #[.string s] w fun e w' => e = .returned (.string s) ∧ Below w.heap.size w w' := by
  go_enter Tryd.func64, Tryd.ntmps64
  go_wp2_with (go_at_call 69; refine (Tryd.stringslite_Clone _ _ hs).mono ?_; rintro e w' ⟨rfl, hb⟩)
  go_ret
  exact ⟨rfl, hb⟩
/-- The operations of which the first k have lists of their own. -/
def CpI (S : Nat → Prop) (B g : Nat) (w : World) (l : List MOp) (k : Nat) : Prop :=
  ∀ j, j < l.length → ∃ lv, (∀ i u, ([.int .i64 (l.getD j default).kind, .string (l.getD j default).key, .int .i64 (l.getD j default).value, lv, .bool (l.getD j default).has, .bool (l.getD j default).nl] : List Value)[i]? = some u → w.cell? ⟨g, j * 6 + i, none⟩ = some u) ∧ IntsIn (fun b => if j < k then (B ≤ b ∧ b ≠ g) ∧ Soft w b else S b ∧ b < B) w lv (l.getD j default).list
theorem CpI.step {S : Nat → Prop} {B g : Nat} {w w3 : World} {l : List MOp} {k : Nat} {lv' : Value} (h : CpI S B g w l k) (hb : Below w.heap.size w w3) (hg : g < w.heap.size) (hB : B ≤ g) (hk : k < l.length) (hl : IntsIn (fun b => w.heap.size ≤ b ∧ Soft w3 b) w3 lv' (l.getD k default).list) : CpI S B g (w3.setCell ⟨g, k * 6 + 3, none⟩ lv') l (k + 1) := fun j hj => by
  obtain ⟨lv, h1, h2⟩ := h j hj
  have hblk : ∀ b, b ≠ g → (w3.setCell ⟨g, k * 6 + 3, none⟩ lv').heap[b]? = w3.heap[b]? := fun b hne => set_ne hne
  by_cases e : j = k
  · subst e
    refine ⟨lv', fun i u hi => ?_, hl.keep (fun b hb2 _ => hblk b (by have := hb2.1; omega)) (fun b _ hb2 => by have := hb2.1; rw [if_pos (by omega)]; exact ⟨⟨by omega, by omega⟩, hb2.2.keep (hblk b (by omega))⟩)⟩
    by_cases e3 : i = 3
    · subst e3
      have hc := h1 3 _ rfl
      have hu : lv' = u := by simpa using hi
      rw [← hu]
      exact World.cell?_setCell_same _ _ _ (((hb.cell (p := ⟨g, j * 6 + 3, none⟩) hg).trans hc))
    · have hi2 : ([.int .i64 (l.getD j default).kind, .string (l.getD j default).key, .int .i64 (l.getD j default).value, lv, .bool (l.getD j default).has, .bool (l.getD j default).nl] : List Value)[i]? = some u := by
        match i, e3, hi with
        | 0, _, hi => exact hi
        | 1, _, hi => exact hi
        | 2, _, hi => exact hi
        | 4, _, hi => exact hi
        | 5, _, hi => exact hi
        | _ + 6, _, hi => simp at hi
      refine (World.cell?_setCell_other _ _ _ _ (fun c => e3 (by have := congrArg Addr.off c; simp only [] at this; omega))).trans ((hb.cell (p := ⟨g, j * 6 + i, none⟩) hg).trans (h1 i u hi2))
  · refine ⟨lv, fun i u hi => ?_, h2.keep (fun b hb2 hbl => ?_) (fun b hbl hb2 => ?_)⟩
    · have hi6 : i < 6 := by
        have := (List.getElem?_eq_some_iff.1 hi).1
        simpa using this
      refine (World.cell?_setCell_other _ _ _ _ (fun c => by have := congrArg Addr.off c; simp only [] at this; omega)).trans ((hb.cell (p := ⟨g, j * 6 + i, none⟩) hg).trans (h1 i u hi))
    · have hne : b ≠ g := by
        dsimp only at hb2
        by_cases hjk : j < k
        · rw [if_pos hjk] at hb2
          exact hb2.1.2
        · rw [if_neg hjk] at hb2
          omega
      exact (hblk b hne).trans (hb.block b hbl)
    · try dsimp only at hb2
      by_cases hjk : j < k
      · rw [if_pos hjk] at hb2
        rw [if_pos (by omega)]
        exact ⟨hb2.1, hb2.2.keep ((hblk b hb2.1.2).trans (hb.block b ‹_›))⟩
      · rw [if_neg hjk] at hb2
        rw [if_neg (by omega)]
        exact hb2
theorem opRow_one {S : Nat → Prop} {w : World} (cs : List Value) (x : MOp) (h : OpRow S w cs x) : ∀ u ∈ cs, u.oneCell' = true := by
  obtain ⟨lv, rfl, ⟨ao, c, rfl, _⟩⟩ := h
  intro u hu
  simp only [List.mem_cons, List.not_mem_nil, or_false] at hu
  rcases hu with rfl | rfl | rfl | rfl | rfl | rfl <;> rfl
theorem ints_lt {S : Nat → Prop} {w : World} {v : Value} {l : List Int} (h : IntsIn S w v l) : IntsIn (fun b => S b ∧ b < w.heap.size) w v l := h.keep (fun _ _ _ => rfl) (fun b hb hs => ⟨hs, hb⟩)
set_option maxHeartbeats 4000000 in
set_option maxRecDepth 100000 in
theorem copy_is {S : Nat → Prop} (v : Value) (l : List MOp) (w : World) (h : OpsIn S w v l) (hks : ∀ o ∈ l, o.key.size ≤ 281474976710656) :
    Calls Tryd.prog 56 #[v] w fun e w' => ∃ v', e = .returned v' ∧ OpsOwn (fun b => w.heap.size ≤ b) w' v' l ∧ Below w.heap.size w w' := by
  have hlen : l.length * 64 ≤ 140737488355328 := by obtain ⟨_, _, _, h, _⟩ := h; exact h
  have CL := hid (cloneO_any (α := MOp) v l w h opRow_one)
  have HKS := hid hks
  clear h hks
  by_cases h0 : 0 < l.length
  · have hli : (l.length : Int) ≤ 2199023255552 := by omega
    go_enter Tryd.func56, Tryd.ntmps56
    go_wp2_with (go_at_call 63; refine CL.out.mono ?_; rintro e w1 ⟨v1, rfl, h1, b1⟩; obtain ⟨g, c, rfl, hc, hB, hgl, ⟨cs0, hg0⟩, hrow⟩ := h1.cell h0; have HR := hid hrow; have HG0 := hid hg0; have B1 := hid b1; clear h1 hrow hg0 b1 CL)
    have I0 : Hid (CpI S w.heap.size g w1 l 0) := fun j hj => by
      obtain ⟨cs, e1, ⟨lv, e2, e3⟩, e4⟩ := HR.out j hj
      subst e2
      exact ⟨lv, e4, (ints_lt e3).keep (keeps_below B1.out) (fun b _ hb => by rw [if_neg (Nat.not_lt_zero _)]; exact hb)⟩
    have F0 : Hid (∀ o, w1.frozen? ⟨g, o, none⟩ = false) := fun o => Lib.frozen_of_heap HG0.out o
    clear HR HG0
    go_loopg [4, 9] l.length (fun gg _ i wr => ∃ k : Nat, k ≤ l.length ∧ l.length - k ≤ gg ∧ i = .int .i64 k ∧ Aside (Below w.heap.size w wr) ∧ Aside (CpI S w.heap.size g wr l k) ∧ Aside (∀ o, wr.frozen? ⟨g, o, none⟩ = false) ∧ Aside (g < wr.heap.size))
    case atStart => exact ⟨0, Nat.zero_le _, by omega, rfl, B1.out, I0.out, F0.out, hgl⟩
    case round =>
      clear I0 F0 B1
      obtain ⟨k, hk, hgk, rfl, BR, IR, FR, GL⟩ := hrel
      by_cases hlt : k < l.length
      · have hlti : (k : Int) < l.length := by omega
        obtain ⟨lv, hcs, hints⟩ := IR.out k hlt
        have c1 := hcs 1 _ rfl
        have c3 := hcs 3 _ rfl
        have hkey : (l.getD k default).key.size ≤ 281474976710656 := HKS.out _ (by simp [List.getD, List.getElem?_eq_getElem hlt])
        obtain ⟨la, lc, rfl, _⟩ := id hints
        have SC := hid (fun W => sclone_is (l.getD k default).key W hkey)
        have HIN := hid hints
        have hgl2 : g < wr.heap.size := GL.out
        have hkc : (k : Int) < c := by omega
        obtain ⟨ky, hky⟩ : ∃ ky, (l.getD k default).key = ky := ⟨_, rfl⟩
        have HKY := hid hky
        rw [hky] at c1 SC
        obtain ⟨lk, hlk⟩ : ∃ lk, (l.getD k default).list = lk := ⟨_, rfl⟩
        have HLK := hid hlk
        rw [hlk] at c3 HIN
        clear hcs hints hkey hky hlk
        go_wp2_with (go_at_call 64; refine (SC.out _).mono ?_; rintro e w2 ⟨rfl, b2⟩; have B2 := hid b2; have d1 : w2.cell? ⟨g, k * 6 + 1, none⟩ = some (.string ky) := (b2.cell (p := ⟨g, k * 6 + 1, none⟩) hgl2).trans c1; have d3 := (b2.cell (p := ⟨g, k * 6 + 3, none⟩) hgl2).trans c3; have f1 : w2.frozen? ⟨g, k * 6 + 1, none⟩ = false := (b2.frozen (p := ⟨g, k * 6 + 1, none⟩) hgl2).trans (FR.out _); clear b2)
        rw [setCell_self d1]
        have IK : Hid (IntsIn (fun b => if k < k then (w.heap.size ≤ b ∧ b ≠ g) ∧ Soft wr b else S b ∧ b < w.heap.size) w2 (.slice la lk.length lc) lk) := HIN.out.keep (keeps_below B2.out) (fun _ _ h => h)
        clear c1 d1 f1
        go_wp2_with fail
        go_at_call 31
        refine (cloneInts_soft _ lk _ IK.out).mono ?_
        rintro e w3 ⟨v3, rfl, h3, b3⟩
        have hsz2 := B2.out.size
        have B3 : Hid (Below wr.heap.size wr w3) := B2.out.trans (b3.mono hsz2)
        have f3 : w3.frozen? ⟨g, k * 6 + 3, none⟩ = false := (B3.out.frozen (p := ⟨g, k * 6 + 3, none⟩) hgl2).trans (FR.out _)
        have e3 := (B3.out.cell (p := ⟨g, k * 6 + 3, none⟩) hgl2).trans c3
        obtain ⟨na, nc, rfl, _⟩ := id h3
        have I3 : Hid (CpI S w.heap.size g (w3.setCell ⟨g, k * 6 + 3, none⟩ (.slice na lk.length nc)) l (k + 1)) := IR.out.step B3.out hgl2 hB hlt (by rw [show (l.getD k default).list = lk from HLK.out]; exact h3.keep (fun _ _ _ => rfl) (fun b _ hb => ⟨by have := hb.1; omega, hb.2⟩))
        have BN : Hid (Below w.heap.size w (w3.setCell ⟨g, k * 6 + 3, none⟩ (.slice na lk.length nc))) := (BR.out.trans (B3.out.mono BR.out.size)).setCell hB _
        have FN : Hid (∀ o, (w3.setCell ⟨g, k * 6 + 3, none⟩ (.slice na lk.length nc)).frozen? ⟨g, o, none⟩ = false) := fun o => by
          show World.frozen? _ _ = false
          rw [World.frozen?_setCell]
          exact (B3.out.frozen (p := ⟨g, o, none⟩) hgl2).trans (FR.out o)
        have GN : Hid (g < (w3.setCell ⟨g, k * 6 + 3, none⟩ (.slice na lk.length nc)).heap.size) := by
          show g < _
          have := B3.out.size
          simp [World.setCell]
          omega
        clear h3 b3 c3 d3 hsz2
        go_wp2_with fail
        go_roundg (l.length - (k + 1))
        case measure => omega
        case rel => exact ⟨k + 1, by omega, by omega, by go_num, BN.out, I3.out, FN.out, GN.out⟩
      · have hke : k = l.length := by omega
        have FIN : Hid (OpsOwn (fun b => w.heap.size ≤ b) wr (.slice (some ⟨g, 0, none⟩) l.length c) l) := ⟨_, c, rfl, ⟨hlen, hc⟩, fun _ => ⟨g, rfl, hB, FR.out, fun j hj => by
          obtain ⟨lv, q1, q2⟩ := IR.out j hj
          exact ⟨_, rfl, ⟨lv, rfl, q2.keep (fun _ _ _ => rfl) (fun b _ hb => by rw [if_pos (by omega)] at hb; exact hb)⟩, q1⟩⟩⟩
        clear hke
        go_wp2_with fail
        go_ret
        exact ⟨_, rfl, FIN.out, BR.out⟩
  · have hl0 : l = [] := List.length_eq_zero_iff.1 (by omega)
    subst hl0
    go_enter Tryd.func56, Tryd.ntmps56
    go_wp2_with (go_at_call 63; refine CL.out.mono ?_; rintro e w1 ⟨v1, rfl, ⟨rows, _, _, _, h1⟩, b1⟩; obtain ⟨a1, c1, rfl⟩ := own_slice h1; have B1 := hid b1; clear h1 b1 CL)
    go_loopg [4, 9] 0 (fun gg _ i wr => i = .int .i64 0 ∧ Aside (Below w.heap.size w wr))
    case atStart => exact ⟨rfl, B1.out⟩
    case round =>
      obtain ⟨rfl, BR⟩ := hrel
      go_wp2_with fail
      go_ret
      exact ⟨_, rfl, ⟨_, _, rfl, ⟨by simp, by simp⟩, fun h => absurd h (by simp)⟩, BR.out⟩
end Go.Proofs.YtjobdfgcgnpppaaDoor
namespace Go.Proofs.YtjobdfgcgnpppaaDoor
set_option linter.unusedVariables false
set_option linter.unusedSimpArgs false
open Go.RowKit

/-- The place of a process's open invocation among the first k events. -/
def opnP (l : List MEv) : Nat → Int → Option Nat
  | 0, _ => none
  | k + 1, p => if (l.getD k default).proc = p then (if (l.getD k default).kind = 1 then some k else none) else opnP l k p
/-- Whether a process's last event among the first k is of unknown end. -/
def goneP (l : List MEv) : Nat → Int → Bool
  | 0, _ => false
  | k + 1, p => if (l.getD k default).proc = p then (l.getD k default).kind == 4 else goneP l k p
theorem opnP_at {l : List MEv} {p : Int} {i : Nat} : ∀ {k}, opnP l k p = some i → i < k ∧ (l.getD i default).proc = p ∧ (l.getD i default).kind = 1
  | 0, h => by cases h
  | k + 1, h => by
    unfold opnP at h
    by_cases h1 : (l.getD k default).proc = p
    · rw [if_pos h1] at h
      by_cases h2 : (l.getD k default).kind = 1
      · rw [if_pos h2] at h
        cases h
        exact ⟨by omega, h1, h2⟩
      · rw [if_neg h2] at h
        cases h
    · rw [if_neg h1] at h
      have := opnP_at h
      exact ⟨by omega, this.2⟩
def wrt (k : Int) : Bool := k == 1 || k == 3
def lst (k : Int) : Bool := k == 1 || k == 2
def thg (k : Int) : Int := if k = 1 ∨ k = 2 then 1 else if k = 3 ∨ k = 4 then 3 else 0
/-- What is asked is the same. -/
def askB (a b : MOp) : Bool := (a.kind == b.kind) && ((a.key.toList == b.key.toList) && (!wrt a.kind || a.value == b.value))
/-- The reads tell something just if the event can know it. -/
def fitB (e : MEv) : Bool := e.ops.all fun o => wrt o.kind || (o.has == (e.kind == 2))
/-- The kind of thing that a key is, of operations. -/
def thA (A : List MOp) (s : ByteArray) : Int := (((A.filter fun o => decide (o.key = s)).getLast?).map fun o => thg o.kind).getD 0
theorem thA_snoc (A : List MOp) (o : MOp) (s : ByteArray) : thA (A ++ [o]) s = if o.key = s then thg o.kind else thA A s := by
  unfold thA
  rw [List.filter_append]
  by_cases h : o.key = s
  · rw [if_pos h]
    simp [h]
  · rw [if_neg h]
    simp [h]
/-- Whether the keys of operations can be noted behind others. -/
def noteB (A : List MOp) : List MOp → Bool
  | [] => true
  | o :: l => if thA A o.key ≠ 0 ∧ thA A o.key ≠ thg o.kind then false else noteB (A ++ [o]) l
/-- Whether a key is of two kinds. -/
def mixB (A l : List MOp) : Bool := l.any fun o => (A ++ l).any fun p => decide (p.key = o.key) && (lst p.kind != lst o.kind)
def okK (o : MOp) : Prop := 1 ≤ o.kind ∧ o.kind ≤ 4
theorem thg_ne {o : MOp} (h : okK o) : thg o.kind ≠ 0 := by
  have h1 := h.1
  have h2 := h.2
  unfold thg
  split
  · decide
  · split
    · decide
    · omega
theorem thg_lst {o p : MOp} (h : okK o) (h2 : okK p) : thg o.kind = thg p.kind ↔ lst o.kind = lst p.kind := by
  have a1 := h.1
  have a2 := h.2
  have b1 := h2.1
  have b2 := h2.2
  have e1 : o.kind = 1 ∨ o.kind = 2 ∨ o.kind = 3 ∨ o.kind = 4 := by omega
  have e2 : p.kind = 1 ∨ p.kind = 2 ∨ p.kind = 3 ∨ p.kind = 4 := by omega
  rcases e1 with e1 | e1 | e1 | e1 <;> rcases e2 with e2 | e2 | e2 | e2 <;> rw [e1, e2] <;> decide
/-- All operations of a key are of one kind. -/
def oneK (A : List MOp) : Prop := ∀ p ∈ A, ∀ q ∈ A, p.key = q.key → thg p.kind = thg q.kind
theorem thA_mem {A : List MOp} {s : ByteArray} (h : thA A s ≠ 0) : ∃ o ∈ A, o.key = s ∧ thA A s = thg o.kind := by
  unfold thA at h ⊢
  cases hc : (A.filter fun o => decide (o.key = s)).getLast? with
  | none => rw [hc] at h; exact absurd rfl h
  | some o =>
    have hm := List.mem_of_getLast? hc
    rw [List.mem_filter] at hm
    exact ⟨o, hm.1, by simpa using hm.2, rfl⟩
theorem thA_is {A : List MOp} (h1 : oneK A) (hk : ∀ o ∈ A, okK o) {o : MOp} (ho : o ∈ A) : thA A o.key = thg o.kind := by
  unfold thA
  have hm : o ∈ A.filter fun p => decide (p.key = o.key) := List.mem_filter.2 ⟨ho, by simp⟩
  cases hc : (A.filter fun p => decide (p.key = o.key)).getLast? with
  | none =>
    rw [List.getLast?_eq_none_iff] at hc
    rw [hc] at hm
    cases hm
  | some p =>
    have hp := List.mem_of_getLast? hc
    rw [List.mem_filter] at hp
    exact h1 p hp.1 o ho (by simpa using hp.2)
theorem note_one : ∀ (l A : List MOp), oneK A → (∀ o ∈ A, okK o) → (∀ o ∈ l, okK o) → (noteB A l = true ↔ oneK (A ++ l))
  | [], A, h1, _, _ => by simp [noteB, h1]
  | o :: l, A, h1, hk, hl => by
    unfold noteB
    have ho := hl o (by simp)
    by_cases hc : thA A o.key ≠ 0 ∧ thA A o.key ≠ thg o.kind
    · rw [if_pos hc]
      constructor
      · intro h; cases h
      · intro h
        obtain ⟨p, hp, e1, e2⟩ := thA_mem hc.1
        exact absurd (e2.trans (h p (by simp [hp]) o (by simp) e1)) hc.2
    · rw [if_neg hc]
      have h2 : oneK (A ++ [o]) := by
        have key : ∀ p ∈ A, p.key = o.key → thg p.kind = thg o.kind := fun p hp e => by
          have q := thA_is h1 hk hp
          rw [e] at q
          rw [← q]
          by_cases h0 : thA A o.key = 0
          · exact absurd (q.symm.trans h0) (thg_ne (hk p hp))
          · by_cases h3 : thA A o.key = thg o.kind
            · exact h3
            · exact absurd ⟨h0, h3⟩ hc
        intro p hp q hq e
        rcases List.mem_append.1 hp with hp' | hp' <;> rcases List.mem_append.1 hq with hq' | hq'
        · exact h1 p hp' q hq' e
        · rw [List.mem_singleton] at hq'; subst hq'; exact key p hp' e
        · rw [List.mem_singleton] at hp'; subst hp'; exact (key q hq' e.symm).symm
        · rw [List.mem_singleton] at hp' hq'; rw [hp', hq']
      have ih := note_one l (A ++ [o]) h2 (fun p hp => by
        rcases List.mem_append.1 hp with hp | hp
        · exact hk p hp
        · rw [List.mem_singleton] at hp; subst hp; exact ho) (fun p hp => hl p (by simp [hp]))
      rw [ih, List.append_assoc]
      rfl
theorem mix_one {A l : List MOp} (h1 : oneK A) (hk : ∀ o ∈ A, okK o) (hl : ∀ o ∈ l, okK o) : mixB A l = false ↔ oneK (A ++ l) := by
  have hall : ∀ o ∈ A ++ l, okK o := fun o ho => by
    rcases List.mem_append.1 ho with ho | ho
    · exact hk o ho
    · exact hl o ho
  unfold mixB
  rw [List.any_eq_false]
  constructor
  · intro h
    have key : ∀ o ∈ l, ∀ p ∈ A ++ l, p.key = o.key → thg p.kind = thg o.kind := fun o ho p hp e => by
      have q := h o ho
      rw [Bool.not_eq_true, List.any_eq_false] at q
      have q2 := q p hp
      rw [decide_eq_true e, Bool.true_and, Bool.not_eq_true, bne_eq_false_iff_eq] at q2
      exact (thg_lst (hall p hp) (hl o ho)).2 q2
    intro p hp q hq e
    rcases List.mem_append.1 hq with hq' | hq'
    · rcases List.mem_append.1 hp with hp' | hp'
      · exact h1 p hp' q hq' e
      · exact (key p hp' q hq e.symm).symm
    · exact key q hq' p hp e
  · intro h o ho
    rw [Bool.not_eq_true, List.any_eq_false]
    intro p hp c
    rw [Bool.and_eq_true, decide_eq_true_eq, bne_iff_ne] at c
    exact c.2 ((thg_lst (hall p hp) (hl o ho)).1 (h p hp o (List.mem_append_right _ ho) c.1))
/-- Noting tells what mixing does. -/
theorem note_mix {A l : List MOp} (h1 : oneK A) (hk : ∀ o ∈ A, okK o) (hl : ∀ o ∈ l, okK o) : noteB A l = !mixB A l := by
  rw [Bool.eq_iff_iff, note_one l A h1 hk hl, ← mix_one h1 hk hl]
  cases mixB A l <;> simp
/-- All operations of the first k events. -/
def opsP (l : List MEv) : Nat → List MOp
  | 0 => []
  | k + 1 => opsP l k ++ (l.getD k default).ops
/-- What is wrong with event k, those ahead of it being right. -/
def stepE (l : List MEv) (k : Nat) : Int :=
  if (l.getD k default).kind = 1 then
    (if (opnP l k (l.getD k default).proc).isSome || goneP l k (l.getD k default).proc then 30
     else if !fitB (l.getD k default) then 32 else if mixB (opsP l k) (l.getD k default).ops then 33 else 0)
  else match opnP l k (l.getD k default).proc with
    | none => 31
    | some i => if !allEq askB (l.getD i default).ops (l.getD k default).ops then 32 else if !fitB (l.getD k default) then 32 else if mixB (opsP l k) (l.getD k default).ops then 33 else 0
theorem step_one {l : List MEv} (hk : ∀ e ∈ l, ∀ o ∈ e.ops, okK o) : ∀ k, k ≤ l.length → (∀ j, j < k → stepE l j = 0) → oneK (opsP l k) ∧ ∀ o ∈ opsP l k, okK o
  | 0, _, _ => ⟨fun p hp => (by cases hp), fun o ho => (by cases ho)⟩
  | k + 1, hl, h => by
    have ih := step_one hk k (by omega) (fun j hj => h j (by omega))
    have hm : l.getD k default ∈ l := by simp [List.getD, List.getElem?_eq_getElem (show k < l.length by omega)]
    have hmx : mixB (opsP l k) (l.getD k default).ops = false := by
      have q := h k (by omega)
      unfold stepE at q
      cases hc : mixB (opsP l k) (l.getD k default).ops with
      | false => rfl
      | true =>
        rw [hc] at q
        simp only [if_true] at q
        split at q
        · split at q
          · cases q
          · split at q <;> cases q
        · split at q
          · cases q
          · split at q
            · cases q
            · split at q <;> cases q
    refine ⟨(mix_one ih.1 ih.2 (hk _ hm)).1 hmx, fun o ho => ?_⟩
    rcases List.mem_append.1 ho with ho | ho
    · exact ih.2 o ho
    · exact hk _ hm o ho
end Go.Proofs.YtjobdfgcgnpppaaDoor
