/-
  Walks of table.New at no transactions and of the law itself.
-/
import Derived.Test.YtkfnplghhiokgabN1
import Derived.Test.YtkfnplghhiokgabShelf2
import Derived.Lib.SmallJoins
namespace Go.Proofs.Ytkfnplghhiokgab
set_option linter.unusedVariables false
set_option linter.unusedSimpArgs false
open Go.RowKit Go.Maps Go.Sort

theorem keys_c (mb : Option Nat) (W : World) : Calls Try.prog 36 #[.map mb] W fun e w' => e = .returned (.func (.func 51) #[] #[.pointer (some ⟨W.heap.size, 0, none⟩)]) ∧ w' = W.alloc (.cells #[.map mb] 53) :=
  (callsIn_wide (n := 5)).1 (Try.maps_Keys_36 mb W)
theorem sorted_c (b : Nat) (w : World) (h : w.heap[b]? = some (.map #[] 0)) : Calls Try.prog 35 #[.func (.func 51) #[] #[.pointer (some ⟨w.heap.size, 0, none⟩)]] (w.alloc (.cells #[.map (some b)] 53)) fun e w' => (∃ a n c, e = .returned (.slice a n c)) ∧ Below (w.alloc (.cells #[.map (some b)] 53)).heap.size (w.alloc (.cells #[.map (some b)] 53)) w' := by
  have hown : w.ownsMap (H := Unit) Try.prog 9 (fun _ => none) b 0 (.map []) := Go.Joins.ownsMap_empty h
  refine ((callsIn_wide (n := 5)).1 (Try.slices_Sorted_keys_35_36 b 0 (.map []) (fun _ => none) w hown (by decide) (by decide))).mono ?_
  rintro e w' ⟨v, ss, rfl, hS, hrow, hnil, hb⟩
  refine ⟨?_, hb⟩
  rcases hrow.2 with ⟨hv, _⟩ | ⟨g, cap, cur, hv, _⟩
  · exact ⟨_, _, _, by rw [hv]⟩
  · exact ⟨_, _, _, by rw [hv]⟩

theorem start_new (w : World) : (fun wr : World => wr.cell? ⟨w.heap.size + 3, 2, none⟩ = some (.map (some w.heap.size)) ∧ wr.cell? ⟨w.heap.size + 3, 1, none⟩ = some (.slice none 0 0) ∧ wr.cell? ⟨w.heap.size + 3, 5, none⟩ = some (.bool true) ∧ wr.frozen? ⟨w.heap.size + 3, 1, none⟩ = false ∧ wr.heap[w.heap.size]? = some (.map #[] 0) ∧ w.heap.size + 3 < wr.heap.size ∧ Aside (Below w.heap.size w wr)) ((((w.alloc (.map #[] 0)).alloc (.map #[] 0)).alloc (.map #[] 0)).alloc (.cells #[.slice none 0 0, .slice none 0 0, .map (some w.heap.size), .map (some (w.heap.size + 1)), .map (some (w.heap.size + 2)), .bool true] 64)) := by
  have s1 : (w.alloc (.map #[] 0)).heap.size = w.heap.size + 1 := by simp
  have s2 : ((w.alloc (.map #[] 0)).alloc (.map #[] 0)).heap.size = w.heap.size + 2 := by simp
  have s3 : (((w.alloc (.map #[] 0)).alloc (.map #[] 0)).alloc (.map #[] 0)).heap.size = w.heap.size + 3 := by simp
  have e1 : (w.alloc (.map #[] 0)).heap[w.heap.size]? = some (.map #[] 0) := heap_alloc_new w _
  have e2 := (Lib.alloc_old (w.alloc (.map #[] 0)) (.map #[] 0) w.heap.size (by omega)).trans e1
  have e3 := (Lib.alloc_old ((w.alloc (.map #[] 0)).alloc (.map #[] 0)) (.map #[] 0) w.heap.size (by omega)).trans e2
  have B1 := below_box w (.map #[] 0)
  have B2 := B1.alloc (by omega) (.map #[] 0)
  have B3 := B2.alloc (by omega) (.map #[] 0)
  generalize ((w.alloc (.map #[] 0)).alloc (.map #[] 0)).alloc (.map #[] 0) = W at *
  show _ ∧ _ ∧ _ ∧ _ ∧ _ ∧ _ ∧ _
  rw [← s3]
  refine ⟨new_cells W _ 64 2, new_cells W _ 64 1, new_cells W _ 64 5, Lib.frozen_of_heap (heap_alloc_new W _) 1, (Lib.alloc_old W _ w.heap.size (by omega)).trans e3, by simp, B3.alloc (by omega) _⟩

set_option maxHeartbeats 2000000 in
set_option maxRecDepth 100000 in
theorem new_nil (w : World) : Calls Try.prog 10 #[.slice none 0 0] w fun e w' => (∃ b, e = .returned (.pointer (some ⟨b, 0, none⟩)) ∧ w'.cell? ⟨b, 5, none⟩ = some (.bool true)) ∧ Below w.heap.size w w' := by
  have m1 : ∀ W, Sem.run Try.prog (Instr.makeMap 53 none) W = .ok (.map (some W.heap.size)) (W.alloc (.map #[] 0)) := fun W => by simp [Instr.makeMap, run_underlying Try.underlying53, go_sem]
  have m2 : ∀ W, Sem.run Try.prog (Instr.makeMap 61 none) W = .ok (.map (some W.heap.size)) (W.alloc (.map #[] 0)) := fun W => by simp [Instr.makeMap, run_underlying Try.underlying61, go_sem]
  have m3 : ∀ W, Sem.run Try.prog (Instr.makeMap 62 none) W = .ok (.map (some W.heap.size)) (W.alloc (.map #[] 0)) := fun W => by simp [Instr.makeMap, run_underlying Try.underlying62, go_sem]
  go_enter Try.func10, Try.ntmps10
  go_wp2_with (go_at_call 31; refine (cloneTxn_nil _ _ _).mono ?_; rintro e w' ⟨rfl, rfl⟩)
  clear m1 m2 m3
  go_loopg [20] 0 (fun g i wr => i = .int .i64 0 ∧ wr.cell? ⟨w.heap.size + 3, 2, none⟩ = some (.map (some w.heap.size)) ∧ wr.cell? ⟨w.heap.size + 3, 1, none⟩ = some (.slice none 0 0) ∧ wr.cell? ⟨w.heap.size + 3, 5, none⟩ = some (.bool true) ∧ wr.frozen? ⟨w.heap.size + 3, 1, none⟩ = false ∧ wr.heap[w.heap.size]? = some (.map #[] 0) ∧ w.heap.size + 3 < wr.heap.size ∧ Aside (Below w.heap.size w wr))
  case atStart =>
    exact ⟨rfl, start_new w⟩
  case round =>
    obtain ⟨rfl, c2, c1, c5, f1, hm, hlt, BW⟩ := hrel
    have HM := hid hm
    clear hm
    go_wp2_with fail
    refine (keys_c _ _).mono ?_
    rintro e w1 ⟨rfl, rfl⟩
    go_wp2_with fail
    refine (sorted_c _ wr HM.out).mono ?_
    rintro e w2 ⟨⟨sa, sn, sc, rfl⟩, b2⟩
    have hl2 : w.heap.size + 3 < (wr.alloc (.cells #[.map (some w.heap.size)] 53)).heap.size := by simp; omega
    have B2 : Hid (Below wr.heap.size wr w2) := (below_box wr _).trans (b2.mono (by simp))
    have d1 : w2.cell? ⟨w.heap.size + 3, 1, none⟩ = some (.slice none 0 0) := (B2.out.cell (p := ⟨w.heap.size + 3, 1, none⟩) hlt).trans c1
    have g1 : w2.frozen? ⟨w.heap.size + 3, 1, none⟩ = false := (B2.out.frozen (p := ⟨w.heap.size + 3, 1, none⟩) hlt).trans f1
    have d5 : w2.cell? ⟨w.heap.size + 3, 5, none⟩ = some (.bool true) := (B2.out.cell (p := ⟨w.heap.size + 3, 5, none⟩) hlt).trans c5
    have B3 : Hid (Below w.heap.size w w2) := BW.out.trans (B2.out.mono BW.out.size)
    clear b2
    go_wp2_with fail
    go_ret
    refine ⟨⟨w.heap.size + 3, rfl, ?_⟩, B3.out.setCell (p := ⟨w.heap.size + 3, 1, none⟩) (by simp) _⟩
    exact (World.cell?_setCell_other _ _ _ _ (by simp)).trans d5
theorem unique_new (b : Nat) (w : World) (c5 : w.cell? ⟨b, 5, none⟩ = some (.bool true)) : Calls Try.prog 24 #[.pointer (some ⟨b, 0, none⟩)] w fun e w' => e = .returned (.bool true) ∧ w = w' := by
  go_enter Try.func24, Try.ntmps24
  go_wp2
  go_ret
  exact ⟨rfl, rfl⟩
end Go.Proofs.Ytkfnplghhiokgab
