/-
  The document's graphs: New.
-/
import Derived.Test.YtbcegdiabnapkabDoorH1
import Derived.Deep.RegionLaw
namespace Go.Proofs.YtbcegdiabnapkabDoor
set_option linter.unusedVariables false
set_option linter.unusedSimpArgs false
open Go.RowKit

theorem Tryd.info42 : (Tryd.prog.info? 51).map (fun i => (i.zero, i.size, i.bytes)) = some (some (.slice none 0 0), 1, 24) := by kernel_rfl
theorem made_ints (m : Nat) : madeCells #[Value.int .i64 0] m = Array.replicate m (Value.int .i64 0) := by
  apply Array.ext
  · simp [madeCells]
  · intro i h1 h2
    have h0 : i % 1 = 0 := by omega
    simp [madeCells, h0]
/-- The places of the first k rows. -/
def placesV (n : Nat) (rw' : Nat → Nat) (k : Nat) : List Value := (List.range k).map fun i => Value.slice (some ⟨rw' i, 0, none⟩) n n
/-- The document's graph that is made: its first k rows are. -/
structure MadeG (w : World) (H b n k : Nat) (v : Value) (rw' : Nat → Nat) : Prop where
  box : w.heap[b]? = some (.cells #[v] 50)
  rows : w.ownsRow H 51 1 v k (placesV n rw' k)
  each : ∀ i, i < k → w.heap[rw' i]? = some (.cells (Array.replicate n (Value.int .i64 0)) 3)
  apart : ∀ i j, i < k → j < k → i ≠ j → rw' i ≠ rw' j
  low : H ≤ b ∧ ∀ i, i < k → H ≤ rw' i
theorem placesV_succ (n : Nat) (rw' : Nat → Nat) (k a : Nat) : placesV n (fun i => if i = k then a else rw' i) (k + 1) = placesV n rw' k ++ [.slice (some ⟨a, 0, none⟩) n n] := by
  unfold placesV
  rw [List.range_succ, List.map_append]
  congr 1
  · apply List.map_congr_left
    intro i hi
    have : i < k := List.mem_range.1 hi
    show Value.slice (some ⟨if i = k then a else rw' i, 0, none⟩) n n = _
    rw [if_neg (by omega)]
  · simp
theorem MadeG.ne {w : World} {H b n k : Nat} {v : Value} {rw' : Nat → Nat} (h : MadeG w H b n k v rw') {x : Nat} {cs : Array Value} {t : TypeId} (hx : w.heap[x]? = some (.cells cs t)) (ht : t ≠ 51) : some x ≠ v.ownBlock := by
  rcases h.rows.2 with ⟨hv, _⟩ | ⟨g, cap, cur, hv, _, h2, _⟩
  · rw [hv]; simp [Value.ownBlock]
  · rw [hv]
    simp [Value.ownBlock]
    exact tags hx h2 ht
/-- One row more. -/
theorem MadeG.next {w w4 : World} {H b n k a : Nat} {v v4 : Value} {rw' : Nat → Nat} {lit : Obj} (h : MadeG w H b n k v rw') (ha : a = w.heap.size)
    (hw4 : ((w.alloc (.cells (Array.replicate n (Value.int .i64 0)) 3)).alloc lit).drew.grownBy w4 v.ownBlock) (hown : w4.ownsRow H 51 1 v4 (k + 1) (placesV n rw' k ++ [.slice (some ⟨a, 0, none⟩) n n])) :
    MadeG (w4.setCell ⟨b, 0, none⟩ v4) H b n (k + 1) v4 (fun i => if i = k then a else rw' i) := by
  subst ha
  have keep : ∀ (x : Nat) (cs : Array Value) (t : TypeId), w.heap[x]? = some (.cells cs t) → t ≠ 51 → w4.heap[x]? = some (.cells cs t) := fun x cs t hx ht => by
    have h1 : ((w.alloc (.cells (Array.replicate n (Value.int .i64 0)) 3)).alloc lit).drew.heap[x]? = some (.cells cs t) := by
      show ((w.alloc (.cells (Array.replicate n (Value.int .i64 0)) 3)).alloc lit).heap[x]? = _
      rw [Below.heap_alloc _ _ _ (by have := blt hx; simp; omega), Below.heap_alloc _ _ _ (blt hx)]
      exact hx
    exact (hw4.block x (blt h1) (h.ne hx ht)).trans h1
  have newrow : w4.heap[w.heap.size]? = some (.cells (Array.replicate n (Value.int .i64 0)) 3) := by
    have h1 : ((w.alloc (.cells (Array.replicate n (Value.int .i64 0)) 3)).alloc lit).drew.heap[w.heap.size]? = some (.cells (Array.replicate n (Value.int .i64 0)) 3) := by
      show ((w.alloc (.cells (Array.replicate n (Value.int .i64 0)) 3)).alloc lit).heap[w.heap.size]? = _
      rw [Below.heap_alloc _ _ _ (by simp)]
      exact heap_alloc_new w _
    refine (hw4.block _ (blt h1) ?_).trans h1
    rcases h.rows.2 with ⟨hv, _⟩ | ⟨g, cap, cur, hv, _, h2, _⟩
    · rw [hv]; simp [Value.ownBlock]
    · rw [hv]
      simp [Value.ownBlock]
      have := blt h2
      omega
  have hb4 : w4.heap[b]? = some (.cells #[v] 50) := keep b _ 50 h.box (by decide)
  have hbs : Beside b w4 (w4.setCell ⟨b, 0, none⟩ v4) := (Beside.refl b w4).setCell (p := ⟨b, 0, none⟩) rfl _
  have each4 : ∀ i, i < k + 1 → w4.heap[if i = k then w.heap.size else rw' i]? = some (.cells (Array.replicate n (Value.int .i64 0)) 3) := fun i hi => by
    by_cases e : i = k
    · rw [if_pos e]; exact newrow
    · rw [if_neg e]; exact keep _ _ 3 (h.each i (by omega)) (by decide)
  refine ⟨?_, ?_, fun i hi => ?_, fun i j hi hj hne => ?_, h.low.1, fun i hi => ?_⟩
  · rw [Go.Joins.block_setCell hb4]
    rfl
  · rw [placesV_succ]
    refine World.ownsRow.kept (row := some b) hown ⟨hbs.os, hbs.tape, hbs.output, hbs.size, fun x hx hn => hbs.block x hx (fun e => hn (by rw [e]))⟩ ?_
    rcases hown.2 with ⟨hv, hk0⟩ | ⟨g, cap, cur, hv, _, h2, _⟩
    · omega
    · rw [hv]
      right
      simp [Value.ownBlock]
      exact tags h2 hb4 (by decide)
  · exact (hbs.block _ (blt (each4 i hi)) (tags (each4 i hi) hb4 (by decide))).trans (each4 i hi)
  · show (if i = k then w.heap.size else rw' i) ≠ (if j = k then w.heap.size else rw' j)
    by_cases e1 : i = k
    · rw [if_pos e1, if_neg (by omega)]
      have := blt (h.each j (by omega))
      omega
    · rw [if_neg e1]
      by_cases e2 : j = k
      · rw [if_pos e2]
        have := blt (h.each i (by omega))
        omega
      · rw [if_neg e2]
        exact h.apart i j (by omega) (by omega) hne
  · show H ≤ (if i = k then w.heap.size else rw' i)
    by_cases e1 : i = k
    · rw [if_pos e1]
      have h1 := blt h.box
      have h2 := h.low.1
      omega
    · rw [if_neg e1]
      exact h.low.2 i (by omega)

set_option maxHeartbeats 4000000 in
theorem rgnew_ok (n : Nat) (hn : n ≤ 300) (w : World) : Calls Tryd.prog 12 #[.int .i64 n] w fun e w' => e = .returned (.tuple #[.pointer (some ⟨w.heap.size, 0, none⟩), .int .i64 0]) ∧ (∃ v rw', MadeG w' w.heap.size w.heap.size n n v rw') ∧ Below w.heap.size w w' := by
  obtain ⟨i0, hi, hz'⟩ := Option.map_eq_some_iff.1 Tryd.info42
  simp only [Prod.mk.injEq] at hz'
  obtain ⟨hz0, hz1, hz2⟩ := hz'
  have HI := hid hi
  have HZ0 := hid hz0
  have HZ1 := hid hz1
  have HZ2 := hid hz2
  clear hi hz0 hz1 hz2
  have hmk := run_make_row' (P := Tryd.prog) 51 3 (.int .i64 0) 8 Tryd.underlying51 Tryd.info3 rfl .i64 .i64 n (by omega) (by omega)
  have h0 : (0 : Int) ≤ n := by omega
  have h1 : (n : Int) ≤ 300 := by omega
  rw [made_ints] at hmk
  have HMK := hid hmk
  clear hmk
  go_enter Tryd.func12, Tryd.ntmps12
  go_wp2_with fail
  have M0 : Hid (MadeG (w.alloc (.cells #[.slice none 0 0] 50)) w.heap.size w.heap.size n 0 (.slice none 0 0) (fun _ => 0)) := ⟨heap_alloc_new w _, World.ownsRow_nil _ _ _ _, fun i hi => by omega, fun i j hi => by omega, Nat.le_refl _, fun i hi => by omega⟩
  have B0 : Hid (Below w.heap.size w (w.alloc (.cells #[.slice none 0 0] 50))) := below_box w _
  have hlt0 : w.heap.size < (w.alloc (.cells #[.slice none 0 0] 50)).heap.size := by simp
  generalize w.alloc (.cells #[.slice none 0 0] 50) = W0 at *
  go_loopg [14] n (fun g i wr => ∃ (k : Nat) (v : Value) (rw' : Nat → Nat), k ≤ n ∧ n - k ≤ g ∧ i = .int .i64 k ∧ Aside (MadeG wr w.heap.size w.heap.size n k v rw') ∧ Aside (Below w.heap.size w wr))
  case atStart => exact ⟨0, _, _, Nat.zero_le _, by omega, rfl, M0.out, B0.out⟩
  case round =>
    obtain ⟨k, v, rw', hk, hg, rfl, MX, BX⟩ := hrel
    by_cases hlt : k < n
    · have hlti : (k : Int) < n := by omega
      have cb : wr.cell? ⟨w.heap.size, 0, none⟩ = some v := Lib.cell_of_heap MX.out.box 0
      have fb : wr.frozen? ⟨w.heap.size, 0, none⟩ = false := Lib.frozen_of_heap MX.out.box 0
      have hbl : w.heap.size < wr.heap.size := blt MX.out.box
      have hmk := HMK.out
      have OWN : Hid (∀ o1 o2, ((wr.alloc o1).alloc o2).drew.ownsRow w.heap.size 51 1 v k (placesV n rw' k)) := fun o1 o2 => by
        have := World.ownsRow.alloc (World.ownsRow.alloc MX.out.rows o1) o2
        exact this
      have NEWS : Hid (∀ o1, ∀ j u, [Value.slice (some ⟨wr.heap.size, 0, none⟩) n n][j]? = some u → ((wr.alloc o1).alloc (.cells #[Value.slice (some ⟨wr.heap.size, 0, none⟩) n n] 51)).drew.cell? ((⟨wr.heap.size + 1, 0, none⟩ : Addr).add j) = some u) := fun o1 => by
        have := heap_alloc_new (wr.alloc o1) (.cells #[Value.slice (some ⟨wr.heap.size, 0, none⟩) n n] 51)
        have e : (wr.alloc o1).heap.size = wr.heap.size + 1 := by simp
        rw [e] at this
        exact World.news_of_block (w := ((wr.alloc o1).alloc (.cells #[Value.slice (some ⟨wr.heap.size, 0, none⟩) n n] 51)).drew) (cs := #[Value.slice (some ⟨wr.heap.size, 0, none⟩) n n]) (t := 51) (fr := (0, 0)) this
      have NE := hid (MX.out.ne MX.out.box (by decide))
      go_wp2_with fail
      go_region_law (refine step_append_lies _ rfl (.tmp 20) (.tmp 23) 48 rfl w.heap.size 51 i0 _ 1 24 Tryd.underlying48 HI.out HZ0.out HZ1.out HZ2.out rfl (by decide) v k (placesV n rw' k) (by simp [Act.eval, Act.put]) (OWN.out _ _) ⟨wr.heap.size + 1, 0, none⟩ 1 1 [.slice (some ⟨wr.heap.size, 0, none⟩) n n] (by simp [Act.eval, Act.put]) rfl (NEWS.out _) (by intro u hu; simp at hu; subst hu; rfl) (by decide) (by unfold maxLen; omega) (by omega) (by simp; omega) (wr.heap.size + 2) (by simp) ?_; intro g cap w4 hown4 hgrow hat hglt; have cb4 : w4.cell? ⟨w.heap.size, 0, none⟩ = some v := hgrow.cell (a := ⟨w.heap.size, 0, none⟩) (Lib.cell?_alloc_some _ (Lib.cell?_alloc_some _ cb)) NE.out; have fb4 : w4.frozen? ⟨w.heap.size, 0, none⟩ = false := (World.grownBy.frozen_far hgrow ⟨w.heap.size, 0, none⟩ (by simp; omega) NE.out).trans (((((Below.refl _ wr).alloc (Nat.le_refl _) _).alloc (by simp) _).frozen (p := ⟨w.heap.size, 0, none⟩) hbl).trans fb); have HOWN := hid hown4; have HGR := hid hgrow; clear hown4 hgrow hat hglt)
      all_goals (try go_wp2_with fail)
      all_goals
        have MN := hid (MX.out.next rfl HGR.out HOWN.out)
        have BN : Hid (Below w.heap.size w w4) := (BX.out.trans (((below_box wr _).alloc (by simp) _).mono BX.out.size)).drew.grown HGR.out (by simp; omega) (fun x hx => (MX.out.rows.lt x hx).1)
        go_roundg (n - (k + 1))
        · exact ⟨k + 1, _, _, by omega, by omega, by go_num, MN.out, BN.out.setCell (Nat.le_refl _) _⟩
        · omega
    · have hlti : ¬ (k : Int) < n := by omega
      have ek : n = k := by omega
      subst ek
      go_wp2_with fail
      go_ret2
      exact ⟨rfl, ⟨v, rw', MX.out⟩, BX.out⟩
theorem MadeG.graph {w : World} {H b n : Nat} {v : Value} {rw' : Nat → Nat} (h : MadeG w H b n n v rw') (hn : n ≤ 300) : RefG w b n v rw' (fun _ _ => 0) := by
  refine ⟨h.box, ⟨h.rows.1, ?_⟩, fun i hi => ⟨_, h.each i hi, by simp, fun j hj => by simp [hj]⟩, h.apart, fun _ _ => by decide, hn⟩
  rcases h.rows.2 with h1 | ⟨g, cap, cur, h1, h2, h3⟩
  · exact .inl h1
  · exact .inr ⟨g, cap, cur, h1, Nat.zero_le _, h3⟩
theorem rgnew_no (n : Int) (hn : n < 0 ∨ 300 < n) (w : World) : Calls Tryd.prog 12 #[.int .i64 n] w fun e w' => e = .returned (.tuple #[.pointer none, .int .i64 1]) ∧ w = w' := by
  rcases hn with h | h
  · go_enter Tryd.func12, Tryd.ntmps12
    go_wp2
    go_ret2
    exact ⟨rfl, rfl⟩
  · have h0 : ¬ n < 0 := by omega
    go_enter Tryd.func12, Tryd.ntmps12
    go_wp2
    go_ret2
    exact ⟨rfl, rfl⟩
end Go.Proofs.YtbcegdiabnapkabDoor
