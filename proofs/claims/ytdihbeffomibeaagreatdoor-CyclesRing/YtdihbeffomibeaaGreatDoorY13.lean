/-
  cycles.rowOf; strange; whether one of the dependencies is strange.
  What the listed variables hold; a slice of dependencies that was handed in.
  slices.Index of ints; the counts of edges that lead to a node.
  The search for components in memory: what it holds; known.
-/
import Derived.Test.YtdihbeffomibeaaGreatDoorY12
import Derived.Handy
import Derived.LoopTactic
import Derived.Test.YtdihbeffomibeaaGreatDoorCards
import Derived.Test.YtdihbeffomibeaaGreatDoorTie
import Derived.Test.YtdihbeffomibeaaGreatDoorRows
import Derived.ProofKit
import Derived.LaidLaws
import Derived.Lib.LaidTab
import Derived.OpenShut
import Derived.ChangeOld
import Derived.Stop.LaidErr
import Derived.Deep.Slices
import Derived.Deep.DeepHandedRow
import Derived.Deep.DeepWitnessRowRef
import Derived.Test.YtdihbeffomibeaaGreatDoorY9
import Derived.Test.YtdihbeffomibeaaGreatDoorY11
import Derived.BigRegion
import Derived.Deep.AppendLies
namespace Go.Proofs.YtdihbeffomibeaaGreatDoor
set_option linter.unusedVariables false
set_option linter.unusedSimpArgs false
open Go.RowKit

/-- The package's variable holds the classes. -/
def Cls (w : World) : Prop := ∀ k, k < 12 → w.cell? ⟨0, k, none⟩ = some (.int .i64 (([8, 1, 1, 9, 2, 3, 10, 4, 3, 11, 4, 7] : List Int).getD k 0))
theorem Cls.pos {w : World} (h : Cls w) : 0 < w.heap.size := World.block_lt_of_cell? _ _ (h 0 (by decide))
theorem Cls.later {w w' : World} (h : Cls w) (hb : Below w.heap.size w w') : Cls w' := fun k hk => by
  rw [← h k hk]
  exact hb.cell (p := ⟨0, k, none⟩) h.pos
/-- What rowOf hands back. -/
def RowPost (c : Int) (real : Bool) (w : World) (e : Ending) (w' : World) : Prop :=
  ((isCl c ∧ e = .returned (.tuple #[.agg #[.int .i64 c, .int .i64 (wantN c : Nat), .int .i64 (othN c real : Nat)], .bool true])) ∨ (¬ isCl c ∧ e = .returned (.tuple #[.agg #[.int .i64 0, .int .i64 0, .int .i64 0], .bool false]))) ∧ Below w.heap.size w w'
theorem cell_put {W : World} {b o o' : Nat} {v u : Value} (h : W.cell? ⟨b, o, none⟩ = some u) (hne : o ≠ o') : (W.setCell ⟨b, o', none⟩ v).cell? ⟨b, o, none⟩ = some u := (World.cell?_setCell_other _ _ _ _ (fun c => hne (by have := congrArg Addr.off c; simpa using this.symm))).trans h
theorem put3b {w wr : World} {nb : Nat} (hnb : w.heap.size = nb) (hb : Below nb w wr) (hs : nb < wr.heap.size) (a b c : Value) (hz : ∀ k, k < 3 → wr.cell? ⟨nb, k, none⟩ = some (.int .i64 0)) : (((wr.setCell ⟨nb, 0, none⟩ a).setCell ⟨nb, 1, none⟩ b).setCell ⟨nb, 2, none⟩ c).cell? ⟨nb, 0, none⟩ = some a ∧ (((wr.setCell ⟨nb, 0, none⟩ a).setCell ⟨nb, 1, none⟩ b).setCell ⟨nb, 2, none⟩ c).cell? ⟨nb, 1, none⟩ = some b ∧ (((wr.setCell ⟨nb, 0, none⟩ a).setCell ⟨nb, 1, none⟩ b).setCell ⟨nb, 2, none⟩ c).cell? ⟨nb, 2, none⟩ = some c ∧ Below w.heap.size w (((wr.setCell ⟨nb, 0, none⟩ a).setCell ⟨nb, 1, none⟩ b).setCell ⟨nb, 2, none⟩ c) := by
  refine ⟨cell_put (cell_put (World.cell?_setCell_same _ _ _ (hz 0 (by decide))) (by decide)) (by decide), cell_put (World.cell?_setCell_same _ _ _ (cell_put (hz 1 (by decide)) (by decide))) (by decide), World.cell?_setCell_same _ _ _ (cell_put (cell_put (hz 2 (by decide)) (by decide)) (by decide)), ?_⟩
  rw [hnb]
  exact ((hb.setCell (Nat.le_refl _) _).setCell (Nat.le_refl _) _).setCell (Nat.le_refl _) _
theorem put3 {w wr : World} {nb : Nat} (hnb : w.heap.size = nb) (hb : Below nb w wr) (hs : nb < wr.heap.size) (hz : ∀ k, k < 3 → wr.cell? ⟨nb, k, none⟩ = some (.int .i64 0)) (a b c : Value) (o : Obj) : ((((wr.setCell ⟨nb, 0, none⟩ a).setCell ⟨nb, 1, none⟩ b).setCell ⟨nb, 2, none⟩ c).alloc o).cell? ⟨nb, 0, none⟩ = some a ∧ ((((wr.setCell ⟨nb, 0, none⟩ a).setCell ⟨nb, 1, none⟩ b).setCell ⟨nb, 2, none⟩ c).alloc o).cell? ⟨nb, 1, none⟩ = some b ∧ ((((wr.setCell ⟨nb, 0, none⟩ a).setCell ⟨nb, 1, none⟩ b).setCell ⟨nb, 2, none⟩ c).alloc o).cell? ⟨nb, 2, none⟩ = some c ∧ Below w.heap.size w ((((wr.setCell ⟨nb, 0, none⟩ a).setCell ⟨nb, 1, none⟩ b).setCell ⟨nb, 2, none⟩ c).alloc o) := by
  obtain ⟨h0, h1, h2, hB⟩ := put3b hnb hb hs a b c hz
  have key : ∀ (V : World) k u, V.cell? ⟨nb, k, none⟩ = some u → (V.alloc o).cell? ⟨nb, k, none⟩ = some u := fun V k u e => (below_box V o).cell (p := ⟨nb, k, none⟩) (World.block_lt_of_cell? _ _ e) |>.trans e
  exact ⟨key _ _ _ h0, key _ _ _ h1, key _ _ _ h2, hB.alloc hB.size _⟩
theorem frozen_of_block {w w' : World} {b : Nat} (h : w'.heap[b]? = w.heap[b]?) (o : Nat) : w'.frozen? ⟨b, o, none⟩ = w.frozen? ⟨b, o, none⟩ := by
  unfold World.frozen?
  simp only [h]
theorem still {w wr : World} {nb : Nat} (hb : Below nb w wr) (hs : nb < wr.heap.size) (hz : ∀ k, k < 3 → wr.cell? ⟨nb, k, none⟩ = some (.int .i64 0)) (hf : ∀ o, wr.frozen? ⟨nb, o, none⟩ = false) (o : Obj) : Below nb w (wr.alloc o) ∧ nb < (wr.alloc o).heap.size ∧ (∀ k, k < 3 → (wr.alloc o).cell? ⟨nb, k, none⟩ = some (.int .i64 0)) ∧ ∀ q, (wr.alloc o).frozen? ⟨nb, q, none⟩ = false :=
  ⟨hb.alloc (by omega) _, by simp; omega, fun k hk => ((below_box wr o).cell (p := ⟨nb, k, none⟩) hs).trans (hz k hk), fun q => (frozen_of_block ((below_box wr o).block nb hs) q).trans (hf q)⟩
set_option maxHeartbeats 8000000 in
set_option maxRecDepth 100000 in
theorem rowOf_is (c : Int) (real : Bool) (w : World) (h : Cls w) : Calls Tryz.prog 16 #[.int .i64 c, .bool real] w fun e w' => RowPost c real w e w' := by
  have i0 : ∀ w : World, (Instr.index 68 (.agg #[.int .i64 8, .int .i64 1, .int .i64 1, .int .i64 9, .int .i64 2, .int .i64 3, .int .i64 10, .int .i64 4, .int .i64 3, .int .i64 11, .int .i64 4, .int .i64 7]) (.int .i64 0)).run Tryz.prog w = .ok (.agg #[.int .i64 8, .int .i64 1, .int .i64 1]) w := fun _ => by kernel_rfl
  have i1 : ∀ w : World, (Instr.index 68 (.agg #[.int .i64 8, .int .i64 1, .int .i64 1, .int .i64 9, .int .i64 2, .int .i64 3, .int .i64 10, .int .i64 4, .int .i64 3, .int .i64 11, .int .i64 4, .int .i64 7]) (.int .i64 1)).run Tryz.prog w = .ok (.agg #[.int .i64 9, .int .i64 2, .int .i64 3]) w := fun _ => by kernel_rfl
  have i2 : ∀ w : World, (Instr.index 68 (.agg #[.int .i64 8, .int .i64 1, .int .i64 1, .int .i64 9, .int .i64 2, .int .i64 3, .int .i64 10, .int .i64 4, .int .i64 3, .int .i64 11, .int .i64 4, .int .i64 7]) (.int .i64 2)).run Tryz.prog w = .ok (.agg #[.int .i64 10, .int .i64 4, .int .i64 3]) w := fun _ => by kernel_rfl
  have i3 : ∀ w : World, (Instr.index 68 (.agg #[.int .i64 8, .int .i64 1, .int .i64 1, .int .i64 9, .int .i64 2, .int .i64 3, .int .i64 10, .int .i64 4, .int .i64 3, .int .i64 11, .int .i64 4, .int .i64 7]) (.int .i64 3)).run Tryz.prog w = .ok (.agg #[.int .i64 11, .int .i64 4, .int .i64 7]) w := fun _ => by kernel_rfl
  have c0 : w.cell? ⟨0, 0, none⟩ = some (.int .i64 8) := h 0 (by decide)
  have c1 : w.cell? ⟨0, 1, none⟩ = some (.int .i64 1) := h 1 (by decide)
  have c2 : w.cell? ⟨0, 2, none⟩ = some (.int .i64 1) := h 2 (by decide)
  have c3 : w.cell? ⟨0, 3, none⟩ = some (.int .i64 9) := h 3 (by decide)
  have c4 : w.cell? ⟨0, 4, none⟩ = some (.int .i64 2) := h 4 (by decide)
  have c5 : w.cell? ⟨0, 5, none⟩ = some (.int .i64 3) := h 5 (by decide)
  have c6 : w.cell? ⟨0, 6, none⟩ = some (.int .i64 10) := h 6 (by decide)
  have c7 : w.cell? ⟨0, 7, none⟩ = some (.int .i64 4) := h 7 (by decide)
  have c8 : w.cell? ⟨0, 8, none⟩ = some (.int .i64 3) := h 8 (by decide)
  have c9 : w.cell? ⟨0, 9, none⟩ = some (.int .i64 11) := h 9 (by decide)
  have c10 : w.cell? ⟨0, 10, none⟩ = some (.int .i64 4) := h 10 (by decide)
  have c11 : w.cell? ⟨0, 11, none⟩ = some (.int .i64 7) := h 11 (by decide)
  have hp : 0 < w.heap.size := h.pos
  have B0 := hid (Below.refl w.heap.size w)
  clear h
  go_enter Tryz.func16, Tryz.ntmps16
  go_wp2_with fail
  obtain ⟨W0, hW0⟩ : ∃ W0, w.alloc (.cells #[.int .i64 0, .int .i64 0, .int .i64 0] 43) = W0 := ⟨_, rfl⟩
  have B1 : Hid (Below w.heap.size w W0 ∧ w.heap.size < W0.heap.size ∧ (∀ k, k < 3 → W0.cell? ⟨w.heap.size, k, none⟩ = some (.int .i64 0)) ∧ ∀ o, W0.frozen? ⟨w.heap.size, o, none⟩ = false) := by
    rw [← hW0]
    refine ⟨below_box w _, by simp, fun k hk => ?_, fun o => ?_⟩
    · rcases (by omega : k = 0 ∨ k = 1 ∨ k = 2) with rfl | rfl | rfl
      · exact new_cells w _ _ 0
      · exact new_cells w _ _ 1
      · exact new_cells w _ _ 2
    · exact Lib.frozen_of_heap (heap_alloc_new w _) o
  rw [hW0]
  clear hW0 c0 c1 c2 c3 c4 c5 c6 c7 c8 c9 c10 c11
  obtain ⟨nb, hnb⟩ : ∃ nb, w.heap.size = nb := ⟨_, rfl⟩
  rw [hnb] at B1 ⊢
  have HNB := hid hnb
  clear hnb
  go_loopg [7, 9] 4 (fun g _ i wr => ∃ k : Nat, k ≤ 4 ∧ 4 - k ≤ g ∧ i = .int .i64 k ∧ Aside (Below nb w wr ∧ nb < wr.heap.size ∧ (∀ k, k < 3 → wr.cell? ⟨nb, k, none⟩ = some (.int .i64 0)) ∧ ∀ o, wr.frozen? ⟨nb, o, none⟩ = false) ∧ Aside (∀ j, j < k → c ≠ ([8, 9, 10, 11] : List Int).getD j 0))
  case atStart => exact ⟨0, Nat.zero_le _, by omega, rfl, B1.out, fun j hj => by omega⟩
  case round =>
    clear B1
    obtain ⟨k, hk, hg, rfl, BX, NX⟩ := hrel
    obtain ⟨WX, hsx, ZX, FX⟩ := BX
    have hcell : ∀ j v, w.cell? ⟨0, j, none⟩ = some v → wr.cell? ⟨0, j, none⟩ = some v := fun j v e => (WX.cell (p := ⟨0, j, none⟩) (by have := HNB.out; simp; omega)).trans e
    have z0 := ZX 0 (by decide)
    have z1 := ZX 1 (by decide)
    have z2 := ZX 2 (by decide)
    have f0 := FX 0
    have f1 := FX 1
    have f2 := FX 2
    have HB := hid WX
    have HZX := hid ZX
    have HFX := hid FX
    have HNX := hid NX
    clear WX ZX FX NX
    rcases (by omega : k = 0 ∨ k = 1 ∨ k = 2 ∨ k = 3 ∨ k = 4) with rfl | rfl | rfl | rfl | rfl
    · by_cases hc : c = 8
      · subst hc
        clear HNX
        have q1 : bits BinOp.or IntKind.i64 1 8 = 9 := by decide
        cases real
        · go_wp2_with fail
          obtain ⟨y0, y1, y2, BB⟩ := put3 (w := w) HNB.out HB.out hsx HZX.out (.int .i64 8) (.int .i64 1) (.int .i64 1) (.cells #[.int .i64 8, .int .i64 1, .int .i64 1] 43)
          exact bodyPost_ret (v := .tuple #[.agg #[.int .i64 8, .int .i64 1, .int .i64 1], .bool true]) (by simp [results, Tryz.results16, go_sem, y0, y1, y2]) rfl ⟨.inl ⟨by unfold isCl; omega, rfl⟩, BB⟩
        · go_wp2_with fail
          obtain ⟨y0, y1, y2, BB⟩ := put3 (w := w) HNB.out HB.out hsx HZX.out (.int .i64 8) (.int .i64 1) (.int .i64 9) (.cells #[.int .i64 8, .int .i64 1, .int .i64 9] 43)
          exact bodyPost_ret (v := .tuple #[.agg #[.int .i64 8, .int .i64 1, .int .i64 9], .bool true]) (by simp [results, Tryz.results16, go_sem, y0, y1, y2]) rfl ⟨.inl ⟨by unfold isCl; omega, rfl⟩, BB⟩
      · have n1 : ((8 : Int) != c) = true := by simp; omega
        have n2 : ¬ (8 : Int) = c := fun e => hc e.symm
        have NN : Hid (∀ j, j < 1 → c ≠ ([8, 9, 10, 11] : List Int).getD j 0) := fun j hj => by
          by_cases e : j = 0
          · subst e; exact hc
          · exact HNX.out j (by omega)
        have BN : Hid (Below nb w (wr.alloc (.cells #[.int .i64 8, .int .i64 1, .int .i64 1] 43)) ∧ nb < (wr.alloc (.cells #[.int .i64 8, .int .i64 1, .int .i64 1] 43)).heap.size ∧ (∀ k, k < 3 → (wr.alloc (.cells #[.int .i64 8, .int .i64 1, .int .i64 1] 43)).cell? ⟨nb, k, none⟩ = some (.int .i64 0)) ∧ ∀ o, (wr.alloc (.cells #[.int .i64 8, .int .i64 1, .int .i64 1] 43)).frozen? ⟨nb, o, none⟩ = false) := still HB.out hsx HZX.out HFX.out _
        clear HNX hc HB HZX HFX
        go_wp2_with fail
        go_roundg (4 - (0 + 1))
        case measure => omega
        case rel => exact ⟨0 + 1, by omega, by omega, by go_num, BN.out, NN.out⟩
    · by_cases hc : c = 9
      · subst hc
        clear HNX
        have q1 : bits BinOp.or IntKind.i64 3 8 = 11 := by decide
        cases real
        · go_wp2_with fail
          obtain ⟨y0, y1, y2, BB⟩ := put3 (w := w) HNB.out HB.out hsx HZX.out (.int .i64 9) (.int .i64 2) (.int .i64 3) (.cells #[.int .i64 9, .int .i64 2, .int .i64 3] 43)
          exact bodyPost_ret (v := .tuple #[.agg #[.int .i64 9, .int .i64 2, .int .i64 3], .bool true]) (by simp [results, Tryz.results16, go_sem, y0, y1, y2]) rfl ⟨.inl ⟨by unfold isCl; omega, rfl⟩, BB⟩
        · go_wp2_with fail
          obtain ⟨y0, y1, y2, BB⟩ := put3 (w := w) HNB.out HB.out hsx HZX.out (.int .i64 9) (.int .i64 2) (.int .i64 11) (.cells #[.int .i64 9, .int .i64 2, .int .i64 11] 43)
          exact bodyPost_ret (v := .tuple #[.agg #[.int .i64 9, .int .i64 2, .int .i64 11], .bool true]) (by simp [results, Tryz.results16, go_sem, y0, y1, y2]) rfl ⟨.inl ⟨by unfold isCl; omega, rfl⟩, BB⟩
      · have n1 : ((9 : Int) != c) = true := by simp; omega
        have n2 : ¬ (9 : Int) = c := fun e => hc e.symm
        have NN : Hid (∀ j, j < 2 → c ≠ ([8, 9, 10, 11] : List Int).getD j 0) := fun j hj => by
          by_cases e : j = 1
          · subst e; exact hc
          · exact HNX.out j (by omega)
        have BN : Hid (Below nb w (wr.alloc (.cells #[.int .i64 9, .int .i64 2, .int .i64 3] 43)) ∧ nb < (wr.alloc (.cells #[.int .i64 9, .int .i64 2, .int .i64 3] 43)).heap.size ∧ (∀ k, k < 3 → (wr.alloc (.cells #[.int .i64 9, .int .i64 2, .int .i64 3] 43)).cell? ⟨nb, k, none⟩ = some (.int .i64 0)) ∧ ∀ o, (wr.alloc (.cells #[.int .i64 9, .int .i64 2, .int .i64 3] 43)).frozen? ⟨nb, o, none⟩ = false) := still HB.out hsx HZX.out HFX.out _
        clear HNX hc HB HZX HFX
        go_wp2_with fail
        go_roundg (4 - (1 + 1))
        case measure => omega
        case rel => exact ⟨1 + 1, by omega, by omega, by go_num, BN.out, NN.out⟩
    · by_cases hc : c = 10
      · subst hc
        clear HNX
        have q1 : bits BinOp.or IntKind.i64 3 8 = 11 := by decide
        cases real
        · go_wp2_with fail
          obtain ⟨y0, y1, y2, BB⟩ := put3 (w := w) HNB.out HB.out hsx HZX.out (.int .i64 10) (.int .i64 4) (.int .i64 3) (.cells #[.int .i64 10, .int .i64 4, .int .i64 3] 43)
          exact bodyPost_ret (v := .tuple #[.agg #[.int .i64 10, .int .i64 4, .int .i64 3], .bool true]) (by simp [results, Tryz.results16, go_sem, y0, y1, y2]) rfl ⟨.inl ⟨by unfold isCl; omega, rfl⟩, BB⟩
        · go_wp2_with fail
          obtain ⟨y0, y1, y2, BB⟩ := put3 (w := w) HNB.out HB.out hsx HZX.out (.int .i64 10) (.int .i64 4) (.int .i64 11) (.cells #[.int .i64 10, .int .i64 4, .int .i64 11] 43)
          exact bodyPost_ret (v := .tuple #[.agg #[.int .i64 10, .int .i64 4, .int .i64 11], .bool true]) (by simp [results, Tryz.results16, go_sem, y0, y1, y2]) rfl ⟨.inl ⟨by unfold isCl; omega, rfl⟩, BB⟩
      · have n1 : ((10 : Int) != c) = true := by simp; omega
        have n2 : ¬ (10 : Int) = c := fun e => hc e.symm
        have NN : Hid (∀ j, j < 3 → c ≠ ([8, 9, 10, 11] : List Int).getD j 0) := fun j hj => by
          by_cases e : j = 2
          · subst e; exact hc
          · exact HNX.out j (by omega)
        have BN : Hid (Below nb w (wr.alloc (.cells #[.int .i64 10, .int .i64 4, .int .i64 3] 43)) ∧ nb < (wr.alloc (.cells #[.int .i64 10, .int .i64 4, .int .i64 3] 43)).heap.size ∧ (∀ k, k < 3 → (wr.alloc (.cells #[.int .i64 10, .int .i64 4, .int .i64 3] 43)).cell? ⟨nb, k, none⟩ = some (.int .i64 0)) ∧ ∀ o, (wr.alloc (.cells #[.int .i64 10, .int .i64 4, .int .i64 3] 43)).frozen? ⟨nb, o, none⟩ = false) := still HB.out hsx HZX.out HFX.out _
        clear HNX hc HB HZX HFX
        go_wp2_with fail
        go_roundg (4 - (2 + 1))
        case measure => omega
        case rel => exact ⟨2 + 1, by omega, by omega, by go_num, BN.out, NN.out⟩
    · by_cases hc : c = 11
      · subst hc
        clear HNX
        have q1 : bits BinOp.or IntKind.i64 7 8 = 15 := by decide
        cases real
        · go_wp2_with fail
          obtain ⟨y0, y1, y2, BB⟩ := put3 (w := w) HNB.out HB.out hsx HZX.out (.int .i64 11) (.int .i64 4) (.int .i64 7) (.cells #[.int .i64 11, .int .i64 4, .int .i64 7] 43)
          exact bodyPost_ret (v := .tuple #[.agg #[.int .i64 11, .int .i64 4, .int .i64 7], .bool true]) (by simp [results, Tryz.results16, go_sem, y0, y1, y2]) rfl ⟨.inl ⟨by unfold isCl; omega, rfl⟩, BB⟩
        · go_wp2_with fail
          obtain ⟨y0, y1, y2, BB⟩ := put3 (w := w) HNB.out HB.out hsx HZX.out (.int .i64 11) (.int .i64 4) (.int .i64 15) (.cells #[.int .i64 11, .int .i64 4, .int .i64 15] 43)
          exact bodyPost_ret (v := .tuple #[.agg #[.int .i64 11, .int .i64 4, .int .i64 15], .bool true]) (by simp [results, Tryz.results16, go_sem, y0, y1, y2]) rfl ⟨.inl ⟨by unfold isCl; omega, rfl⟩, BB⟩
      · have n1 : ((11 : Int) != c) = true := by simp; omega
        have n2 : ¬ (11 : Int) = c := fun e => hc e.symm
        have NN : Hid (∀ j, j < 4 → c ≠ ([8, 9, 10, 11] : List Int).getD j 0) := fun j hj => by
          by_cases e : j = 3
          · subst e; exact hc
          · exact HNX.out j (by omega)
        have BN : Hid (Below nb w (wr.alloc (.cells #[.int .i64 11, .int .i64 4, .int .i64 7] 43)) ∧ nb < (wr.alloc (.cells #[.int .i64 11, .int .i64 4, .int .i64 7] 43)).heap.size ∧ (∀ k, k < 3 → (wr.alloc (.cells #[.int .i64 11, .int .i64 4, .int .i64 7] 43)).cell? ⟨nb, k, none⟩ = some (.int .i64 0)) ∧ ∀ o, (wr.alloc (.cells #[.int .i64 11, .int .i64 4, .int .i64 7] 43)).frozen? ⟨nb, o, none⟩ = false) := still HB.out hsx HZX.out HFX.out _
        clear HNX hc HB HZX HFX
        go_wp2_with fail
        go_roundg (4 - (3 + 1))
        case measure => omega
        case rel => exact ⟨3 + 1, by omega, by omega, by go_num, BN.out, NN.out⟩
    · have NC : Hid (¬ isCl c) := by
        intro h
        have n0 := HNX.out 0 (by decide)
        have n1 := HNX.out 1 (by decide)
        have n2 := HNX.out 2 (by decide)
        have n3 := HNX.out 3 (by decide)
        simp at n0 n1 n2 n3
        unfold isCl at h
        omega
      clear HNX
      go_wp2_with fail
      obtain ⟨y0, y1, y2, BB⟩ := put3b (w := w) HNB.out HB.out hsx (.int .i64 0) (.int .i64 0) (.int .i64 0) HZX.out
      exact bodyPost_ret (v := .tuple #[.agg #[.int .i64 0, .int .i64 0, .int .i64 0], .bool false]) (by simp [results, Tryz.results16, go_sem, y0, y1, y2]) rfl ⟨.inr ⟨NC.out, rfl⟩, BB⟩
/-- Whether a label is none of the four. -/
def strB (l : Int) : Bool := !(l == 1 || (l == 2 || (l == 4 || l == 8)))
theorem strB_iff (l : Int) : strB l = true ↔ ¬ one4 l := by
  unfold strB one4
  simp
theorem strange_at (x0 x1 x2 : Int) (x3 : ByteArray) (x4 x5 : Int) (x6 x7 : Bool) (w : World) : Calls Tryz.prog 18 #[.agg #[.int .i64 x0, .int .i64 x1, .int .i64 x2, .string x3, .int .i64 x4, .int .i64 x5, .bool x6, .bool x7]] w fun e w' => e = .returned (.bool (strB x2)) ∧ Below w.heap.size w w' := by
  by_cases h1 : x2 = 1
  · subst h1
    go_enter Tryz.func18, Tryz.ntmps18
    go_wp2
    go_ret
    exact ⟨rfl, below_box w _⟩
  · have a1 : (x2 == 1) = false := by simpa using h1
    by_cases h2 : x2 = 2
    · subst h2
      go_enter Tryz.func18, Tryz.ntmps18
      go_wp2
      go_ret
      exact ⟨rfl, below_box w _⟩
    · have a2 : (x2 == 2) = false := by simpa using h2
      by_cases h4 : x2 = 4
      · subst h4
        go_enter Tryz.func18, Tryz.ntmps18
        go_wp2
        go_ret
        exact ⟨rfl, below_box w _⟩
      · have a4 : (x2 == 4) = false := by simpa using h4
        by_cases h8 : x2 = 8
        · subst h8
          go_enter Tryz.func18, Tryz.ntmps18
          go_wp2
          go_ret
          exact ⟨rfl, below_box w _⟩
        · have a8 : (x2 == 8) = false := by simpa using h8
          go_enter Tryz.func18, Tryz.ntmps18
          go_wp2
          go_ret
          exact ⟨by simp [strB, a1, a2, a4, a8], below_box w _⟩
set_option maxHeartbeats 8000000 in
set_option maxRecDepth 100000 in
theorem strIdx_is (ao : Option Addr) (m cp : Nat) (f : Nat → MW) (w : World) (hl : Lw w ao m f) (hm : m ≤ 100) :
    Calls Tryz.prog 35 #[.slice ao m cp, .func (.func 18) #[] #[]] w fun e w' => (∃ r : Int, e = .returned (.int .i64 r) ∧ (0 ≤ r ↔ ∃ j, j < m ∧ ¬ one4 (f j).lab)) ∧ Below w.heap.size w w' := by
  have H := hid hl
  have hmi : (m : Int) ≤ 100 := by omega
  have B0 := hid (Below.refl w.heap.size w)
  clear hl
  go_enter Tryz.func35, Tryz.ntmps35
  go_wp2_with fail
  go_loopg [5, 8] m (fun gg _ i wr => ∃ k : Nat, k ≤ m ∧ m - k ≤ gg ∧ i = .int .i64 k ∧ Aside (∀ j, j < k → one4 (f j).lab) ∧ Aside (Below w.heap.size w wr))
  case atStart => exact ⟨0, Nat.zero_le _, by omega, rfl, fun j hj => by omega, B0.out⟩
  case round =>
    clear B0
    obtain ⟨k, hk, hg, rfl, NX, BX⟩ := hrel
    by_cases hlt : k < m
    · have hlti : (k : Int) < m := by omega
      have hk0 : (0 : Int) ≤ k := by omega
      obtain ⟨b, o, rfl, hb, k0, k1, k2, k3, k4, k5, k6, k7⟩ := (H.out.later BX.out).eight k hlt
      obtain ⟨⟨x0, x1, x2, x3, x4, x5, x6, x7⟩, hx⟩ : ∃ x, f k = x := ⟨_, rfl⟩
      rw [hx] at k0 k1 k2 k3 k4 k5 k6 k7
      have HX := hid hx
      clear hx
      have ST := hid (strange_at x0 x1 x2 x3 x4 x5 x6 x7 wr)
      by_cases hs : strB x2 = true
      · have EX : Hid (∃ j, j < m ∧ ¬ one4 (f j).lab) := ⟨k, hlt, by rw [HX.out]; exact (strB_iff x2).1 hs⟩
        rw [hs] at ST
        clear hs
        go_wp2_with fail
        go_at_call 18
        refine ST.out.mono ?_
        rintro e w' ⟨rfl, b1⟩
        have B1 := hid (BX.out.trans (b1.mono BX.out.size))
        clear b1 k0 k1 k2 k3 k4 k5 k6 k7
        go_wp2_with fail
        go_ret
        exact ⟨⟨_, rfl, ⟨fun _ => EX.out, fun _ => by omega⟩⟩, B1.out⟩
      · have hs' : strB x2 = false := by simpa using hs
        have EX : Hid (∀ j, j < k + 1 → one4 (f j).lab) := fun j hj => by
          by_cases e : j = k
          · subst e
            rw [HX.out]
            exact Classical.byContradiction fun c => hs ((strB_iff x2).2 c)
          · exact NX.out j (by omega)
        rw [hs'] at ST
        clear hs hs' NX
        go_wp2_with fail
        go_at_call 18
        refine ST.out.mono ?_
        rintro e w' ⟨rfl, b1⟩
        have B1 := hid (BX.out.trans (b1.mono BX.out.size))
        clear b1 k0 k1 k2 k3 k4 k5 k6 k7
        go_wp2_with fail
        go_roundg (m - (k + 1))
        case measure => omega
        case rel => exact ⟨k + 1, by omega, by omega, by go_num, EX.out, B1.out⟩
    · have hlti : ¬ (k : Int) < m := by omega
      have EX : Hid (∀ j, j < m → one4 (f j).lab) := fun j hj => NX.out j (by omega)
      clear NX
      go_wp2_with fail
      go_ret
      exact ⟨⟨_, rfl, ⟨fun h => by omega, fun ⟨j, hj, hn⟩ => absurd (EX.out j hj) hn⟩⟩, BX.out⟩
set_option maxHeartbeats 4000000 in
theorem strCont_is (ao : Option Addr) (m cp : Nat) (f : Nat → MW) (w : World) (hl : Lw w ao m f) (hm : m ≤ 100) :
    Calls Tryz.prog 17 #[.slice ao m cp, .func (.func 18) #[] #[]] w fun e w' => (∃ t : Bool, e = .returned (.bool t) ∧ (t = true ↔ ∃ j, j < m ∧ ¬ one4 (f j).lab)) ∧ Below w.heap.size w w' := by
  have IX := hid (strIdx_is ao m cp f w hl hm)
  clear hl
  go_enter Tryz.func17, Tryz.ntmps17
  go_wp2_with fail
  go_at_call 35
  refine IX.out.mono ?_
  rintro e w' ⟨⟨r, rfl, hr⟩, b1⟩
  have HR := hid hr
  have B1 := hid b1
  clear hr b1 IX
  go_wp2_with fail
  refine bodyPost_ret (v := .bool (decide (0 ≤ r))) (by simp [results, Tryz.results17, go_sem]) rfl ⟨⟨_, rfl, by rw [decide_eq_true_eq]; exact HR.out⟩, B1.out⟩
end Go.Proofs.YtdihbeffomibeaaGreatDoor
namespace Go.Proofs.YtdihbeffomibeaaGreatDoor
set_option linter.unusedVariables false
set_option linter.unusedSimpArgs false
open Go.ChangeShapes Go.WideShapes Go.ChangeAt Go.RowKit

theorem Tryz.own : ownKnob Tryz.prog.godebug = none := by kernel_rfl
theorem Tryz.laidOut : laidOutB Tryz.prog = true := by kernel_rfl
/-- A block's cells laid anew. -/
def put (h : Array Obj) (g : Nat) (cs : Array Value) : Array Obj := h.modify g fun
  | .cells _ t frozen => .cells cs t frozen
  | o => o
/-- The library's table. -/
def tab64 : List Int := [0, 1, 56, 2, 57, 49, 28, 3, 61, 58, 42, 50, 38, 29, 17, 4, 62, 47, 59, 36, 45, 43, 51, 22, 53, 39, 33, 30, 24, 18, 12, 5, 63, 55, 48, 27, 60, 41, 37, 16, 46, 35, 44, 21, 52, 32, 23, 11, 54, 26, 40, 15, 34, 20, 31, 10, 25, 14, 19, 9, 13, 8, 7, 6]
/-- The program's classes. -/
def cls12 : List Int := [8, 1, 1, 9, 2, 3, 10, 4, 3, 11, 4, 7]
theorem Tryz.cells3 : Tryz.prog.cellsOf 3 = 1 := by kernel_rfl
theorem Tryz.cells4 : Tryz.prog.cellsOf 4 = 1 := by kernel_rfl
theorem Tryz.cells9 : Tryz.prog.cellsOf 9 = 1 := by kernel_rfl
theorem Tryz.cellsWhy : Tryz.prog.cellsOf 25 = 8 := by kernel_rfl
theorem Tryz.cellsRow : Tryz.prog.cellsOf 43 = 3 := by kernel_rfl
theorem Tryz.cellsClasses : Tryz.prog.cellsOf 68 = 12 := by kernel_rfl

theorem tab_of {W : World} {rest : List (String × DataW Unit)} (h : laidMet Tryz.prog (("math/bits.deBruijn64tab", Rows.laid_math_bits_deBruijn64tab) :: rest) W) : Tab W := by
  have h1 := Lib.tabIs_of_head (P := Tryz.prog) (W := W) (name := "math/bits.deBruijn64tab") (k := .u8) (zs := tab64) (rest := rest) (g := 1) (t := 152) (e := 5) (n := 64) (by kernel_rfl) (by kernel_rfl) Tryz.underlying152 Tryz.underlying5 (by kernel_rfl) (by kernel_rfl) h
  intro j hj
  have h2 := h1.cell (g := 1) (by kernel_rfl) j hj
  rw [h2]
  have e : ∀ j, j < 64 → (tab64.getD j 0 : Int) = ((Lib.deBruijn64tab.getD j 0 : Nat) : Int) := by decide +kernel
  rw [e j hj]
section
variable {H : Type} {enc : TypeId × Value → H} {w : World} {base : Nat} {sp : Nat → Bool} {held : Bool}
set_option maxRecDepth 10000 in
theorem row_of_trod {fuel : Nat} {cs : List Value} {a b c : Int} {p : List MemPlace} (hlen : cs.length = 3) (h : DataW.trod enc Tryz.prog w base sp held fuel 43 cs = some (.agg [.lit (.int .i64 a), .lit (.int .i64 b), .lit (.int .i64 c)], p)) : cs = [.int .i64 a, .int .i64 b, .int .i64 c] := by
  obtain ⟨xs, m, rfl, hx, _, hxl, hf⟩ := DataW.trod_struct Tryz.underlying43 h
  match cs, hlen with
  | [c0, c1, c2], _ =>
    match xs, hxl with
    | [x0, x1, x2], _ =>
      have f0 := hf 0 _ rfl
      have f1 := hf 1 _ rfl
      have f2 := hf 2 _ rfl
      simp [Tryz.cells3] at f0 f1 f2
      obtain ⟨y0, e0, g0, _⟩ := DataW.trod_int Tryz.underlying3 f0
      obtain ⟨y1, e1, g1, _⟩ := DataW.trod_int Tryz.underlying3 f1
      obtain ⟨y2, e2, g2, _⟩ := DataW.trod_int Tryz.underlying3 f2
      have hx1 := congrArg Prod.fst hx
      simp [g0, g1, g2] at hx1 e0 e1 e2
      obtain ⟨q0, q1, q2⟩ := hx1
      subst q0 q1 q2 e0 e1 e2
      rfl
set_option maxRecDepth 10000 in
theorem classes_of_trod {fuel : Nat} {cs : List Value} {p : List MemPlace} (h : DataW.trod enc Tryz.prog w base sp held fuel 68 cs = some (Rows.laid_assayer_cycles_classes, p)) : cs = cls12.map (Value.int .i64) := by
  cases fuel with
  | zero => simp [DataW.trod] at h
  | succ fuel =>
    simp only [DataW.trod, Tryz.underlying68, Tryz.cellsRow] at h
    split at h
    · rename_i hl
      obtain ⟨xs, hm, hx⟩ := Option.map_eq_some_iff.1 h
      have hxs := congrArg Prod.fst hx
      simp only [Rows.laid_assayer_cycles_classes] at hxs
      have hlen : cs.length = 12 := (by simpa using hl : cs.length = Tryz.prog.cellsOf 68).trans Tryz.cellsClasses
      have hat := fun (i : Nat) (hi : i < 4) => Lib.mapM_at hm i i (List.getElem?_range hi)
      obtain ⟨b0, g0, f0⟩ := hat 0 (by decide)
      obtain ⟨b1, g1, f1⟩ := hat 1 (by decide)
      obtain ⟨b2, g2, f2⟩ := hat 2 (by decide)
      obtain ⟨b3, g3, f3⟩ := hat 3 (by decide)
      have hxl : xs.length = 4 := by simpa using Lib.mapM_length hm
      match xs, hxl with
      | [z0, z1, z2, z3], _ =>
        simp at g0 g1 g2 g3 hxs
        subst g0 g1 g2 g3
        obtain ⟨q0, q1, q2, q3⟩ := hxs
        have t0 := f0.trans (congrArg some (Prod.ext q0 rfl : z0 = (_, z0.2)))
        have l0 : ((cs.drop (0 * 3)).take 3).length = 3 := by simp [hlen]
        have r0 := row_of_trod l0 t0
        have t1 := f1.trans (congrArg some (Prod.ext q1 rfl : z1 = (_, z1.2)))
        have l1 : ((cs.drop (1 * 3)).take 3).length = 3 := by simp [hlen]
        have r1 := row_of_trod l1 t1
        have t2 := f2.trans (congrArg some (Prod.ext q2 rfl : z2 = (_, z2.2)))
        have l2 : ((cs.drop (2 * 3)).take 3).length = 3 := by simp [hlen]
        have r2 := row_of_trod l2 t2
        have t3 := f3.trans (congrArg some (Prod.ext q3 rfl : z3 = (_, z3.2)))
        have l3 : ((cs.drop (3 * 3)).take 3).length = 3 := by simp [hlen]
        have r3 := row_of_trod l3 t3
        match cs, hlen with
        | [c0, c1, c2, c3, c4, c5, c6, c7, c8, c9, c10, c11], _ =>
          simp at r0 r1 r2 r3
          obtain ⟨rfl, rfl, rfl⟩ := r0
          obtain ⟨rfl, rfl, rfl⟩ := r1
          obtain ⟨rfl, rfl, rfl⟩ := r2
          obtain ⟨rfl, rfl, rfl⟩ := r3
          rfl
    · cases h
set_option maxRecDepth 10000 in
/-- A dependency's eight cells. -/
theorem why_of_trod (n : Nat) (cs : List Value) (y : DataW H × List MemPlace) (hlen : cs.length = 8) (h : DataW.trod enc Tryz.prog w base sp held n 25 cs = some y) : ∃ x : MW, cs = encW x := by
  obtain ⟨xs, m, rfl, rfl, _, hxl, hf⟩ := DataW.trod_struct Tryz.underlying25 h
  match cs, hlen with
  | [c0, c1, c2, c3, c4, c5, c6, c7], _ =>
    match xs, hxl with
    | [x0, x1, x2, x3, x4, x5, x6, x7], _ =>
      have f0 := hf 0 _ rfl
      have f1 := hf 1 _ rfl
      have f2 := hf 2 _ rfl
      have f3 := hf 3 _ rfl
      have f4 := hf 4 _ rfl
      have f5 := hf 5 _ rfl
      have f6 := hf 6 _ rfl
      have f7 := hf 7 _ rfl
      simp [Tryz.cells3, Tryz.cells4, Tryz.cells9] at f0 f1 f2 f3 f4 f5 f6 f7
      obtain ⟨y0, e0, _⟩ := DataW.trod_int Tryz.underlying3 f0
      obtain ⟨y1, e1, _⟩ := DataW.trod_int Tryz.underlying3 f1
      obtain ⟨y2, e2, _⟩ := DataW.trod_int Tryz.underlying3 f2
      obtain ⟨y3, e3, _⟩ := DataW.trod_string Tryz.underlying9 f3
      obtain ⟨y4, e4, _⟩ := DataW.trod_int Tryz.underlying3 f4
      obtain ⟨y5, e5, _⟩ := DataW.trod_int Tryz.underlying3 f5
      obtain ⟨y6, e6, _⟩ := DataW.trod_bool Tryz.underlying4 f6
      obtain ⟨y7, e7, _⟩ := DataW.trod_bool Tryz.underlying4 f7
      simp at e0 e1 e2 e3 e4 e5 e6 e7
      subst e0 e1 e2 e3 e4 e5 e6 e7
      exact ⟨(y0, y1, y2, y3, y4, y5, y6, y7), rfl⟩
/-- A slice of them. -/
theorem whys_of_trod {fuel : Nat} {a : Option Addr} {len cap : Nat} {x : DataW H × List MemPlace} (h : DataW.trod enc Tryz.prog w base sp held fuel 22 [.slice a len cap] = some x) : ∃ f, Lw w a len f ∧ len ≤ maxLen := by
  rcases Deep.open_slice Tryz.underlying22 h with ⟨hcs, hx0⟩ | ⟨y, l, c, m, n, D, Pl, hcs, hb, hl, hm, hmm, hx0, hx⟩
  · simp at hcs
    obtain ⟨rfl, rfl, rfl⟩ := hcs
    exact ⟨fun _ => default, fun j hj => by omega, by simp⟩
  · simp at hcs
    obtain ⟨rfl, rfl, rfl⟩ := hcs
    have hlm : len ≤ m := by rw [hmm]; split <;> omega
    rw [Tryz.cellsWhy] at hx
    have key : ∀ i, i < len → ∃ q : MW, ∀ j, j < 8 → w.cell? (y.add (i * 8 + j)) = (encW q)[j]? := fun i hi => by
      obtain ⟨cs', h1, h2⟩ := hx i (by omega)
      obtain ⟨_, hlen, hc⟩ := World.cells?_some h1
      obtain ⟨q, rfl⟩ := why_of_trod n cs' _ hlen h2
      exact ⟨q, fun j hj => by rw [← Deep.add_add]; exact hc j hj⟩
    obtain ⟨f, hf⟩ := Deep.choose_lt (α := MW) key
    refine ⟨f, fun j hj => ?_, by omega⟩
    obtain ⟨b, off, spot⟩ := y
    have hspot : spot = none := by
      have := hf 0 (by omega) 0 (by omega)
      simpa [Addr.add] using World.cell?_spot (this.trans (List.getElem?_eq_getElem (by rw [encW_len]; omega)))
    subst hspot
    have hcell : ∀ i u, (encW (f j))[i]? = some u → w.cell? ⟨b, off + j * 8 + i, none⟩ = some u := fun i u hi => by
      have hi8 : i < 8 := by have := (List.getElem?_eq_some_iff.1 hi).1; rwa [encW_len] at this
      have := hf j hj i hi8
      rw [Addr.add_lit, hi] at this
      simpa [Nat.add_assoc] using this
    exact ⟨b, off, rfl, World.block_lt_of_cell? _ _ (hcell 0 _ rfl), hcell⟩
end
theorem cls_of {W : World} {rest : List (String × DataW Unit)} (h : laidMet Tryz.prog (("assayer/cycles.classes", Rows.laid_assayer_cycles_classes) :: rest) W) : Cls W := by
  obtain ⟨ps, ⟨g, t, cs, fuel, p, q, hg, ht, hvar, hd, _, _⟩, _⟩ := h
  obtain rfl : g = 0 := Option.some.inj (hg.symm.trans (show Tryz.prog.globalNamed "assayer/cycles.classes" = some 0 by kernel_rfl))
  obtain rfl : t = 68 := Option.some.inj (ht.symm.trans (by kernel_rfl))
  have e := classes_of_trod hd
  intro k hk
  have hv := World.var?_cell (show Tryz.prog.globalNamed "assayer/cycles.classes" = some 0 by kernel_rfl) hvar k
  rw [hv, ← Array.getElem?_toList, e]
  rcases (by omega : k = 0 ∨ k = 1 ∨ k = 2 ∨ k = 3 ∨ k = 4 ∨ k = 5 ∨ k = 6 ∨ k = 7 ∨ k = 8 ∨ k = 9 ∨ k = 10 ∨ k = 11) with rfl | rfl | rfl | rfl | rfl | rfl | rfl | rfl | rfl | rfl | rfl | rfl <;> rfl
end Go.Proofs.YtdihbeffomibeaaGreatDoor
namespace Go.Proofs.YtdihbeffomibeaaGreatDoor
set_option linter.unusedVariables false
set_option linter.unusedSimpArgs false
open Go.RowKit

/-- The first place of a number. -/
def IsIndex (n : Nat) (f : Nat → Int) (x r : Int) : Prop := (∃ k : Nat, r = k ∧ k < n ∧ f k = x ∧ ∀ j, j < k → f j ≠ x) ∨ (r = -1 ∧ ∀ j, j < n → f j ≠ x)
set_option maxHeartbeats 4000000 in
set_option maxRecDepth 100000 in
theorem index_is (g N n cap : Nat) (f : Nat → Int) (x : Int) (w : World) (h : Lay1 w g N n f) (hn : n < 10000) :
    Calls Tryz.prog 92 #[.slice (some ⟨g, 0, none⟩) n cap, .int .i64 x] w fun e w' => (∃ r, e = .returned (.int .i64 r) ∧ IsIndex n f x r) ∧ w = w' := by
  have H := hid h
  clear h
  have hni : (n : Int) < 10000 := by omega
  go_enter Tryz.func92, Tryz.ntmps92
  go_wp2_with fail
  go_loopg [8] n (fun gg i wr => ∃ k : Nat, k ≤ n ∧ n - k ≤ gg ∧ i = .int .i64 k ∧ Aside (∀ j, j < k → f j ≠ x) ∧ w = wr)
  case atStart => exact ⟨0, Nat.zero_le _, by omega, rfl, fun j hj => by omega, rfl⟩
  case round =>
    obtain ⟨k, hk, hg, rfl, NX, rfl⟩ := hrel
    by_cases hlt : k < n
    · have hlti : (k : Int) < n := by omega
      obtain ⟨ck, -⟩ := H.out.cell k hlt
      by_cases e : f k = x
      · rw [e] at ck
        have hxx : (x == x) = true := by simp
        have IS : Hid (IsIndex n f x (k : Int)) := .inl ⟨k, rfl, hlt, e, NX.out⟩
        clear e
        go_wp2_with fail
        go_ret
        exact ⟨⟨_, rfl, IS.out⟩, rfl⟩
      · have NN : Hid (∀ j, j < k + 1 → f j ≠ x) := fun j hj => by
          by_cases e2 : j = k
          · rw [e2]; exact e
          · exact NX.out j (by omega)
        have hxf : (x == f k) = false := by simp; exact fun c => e c.symm
        have hxf2 : ¬ (x = f k) := fun c => e c.symm
        generalize f k = y at *
        go_wp2_with fail
        go_roundg (n - (k + 1))
        · exact ⟨k + 1, by omega, by omega, by go_num, NN.out, rfl⟩
        · omega
    · have hlti : ¬ (k : Int) < n := by omega
      have IS : Hid (IsIndex n f x (-1)) := .inr ⟨rfl, fun j hj => NX.out j (by omega)⟩
      go_wp2_with fail
      go_ret
      exact ⟨⟨_, rfl, IS.out⟩, rfl⟩
end Go.Proofs.YtdihbeffomibeaaGreatDoor
namespace Go.Proofs.YtdihbeffomibeaaGreatDoor
set_option linter.unusedVariables false
set_option linter.unusedSimpArgs false
open Go.RowKit

theorem own_gro {B t k n : Nat} {P : Nat → Prop} {w w' : World} {v : Value} {xs : List Value} (h : w.ownsRow B t k v n xs) (hg : Gro P w w') (hn : ∀ g, v.ownBlock = some g → ¬ P g) : w'.ownsRow B t k v n xs := by
  refine ⟨h.1, ?_⟩
  rcases h.2 with h1 | ⟨g, cap, cur, hv, hB, hh, r⟩
  · exact .inl h1
  · exact .inr ⟨g, cap, cur, hv, hB, hg.at hh (hn g (by rw [hv]; rfl)), r⟩
theorem own_tag {B t k n : Nat} {w : World} {v : Value} {xs : List Value} (h : w.ownsRow B t k v n xs) {g : Nat} (hg : v.ownBlock = some g) : B ≤ g ∧ ∃ cur, w.heap[g]? = some (.cells cur t) := by
  rcases h.2 with ⟨hv, _⟩ | ⟨g', cap, cur, hv, hB, hh, _⟩
  · rw [hv] at hg; cases hg
  · rw [hv] at hg
    injection hg with hg
    subst hg
    exact ⟨hB, cur, hh⟩
theorem own_form {B t k n : Nat} {w : World} {v : Value} {xs : List Value} (h : w.ownsRow B t k v n xs) : ∃ a c, v = .slice a n c ∧ n ≤ c := by
  rcases h.2 with ⟨hv, hn⟩ | ⟨g', cap, cur, hv, hB, hh, hc, _⟩
  · exact ⟨none, 0, by rw [hv, hn], by omega⟩
  · exact ⟨_, cap, hv, hc⟩
/-- Marks in block mk. -/
def LayM (w : World) (mk n : Nat) (num low : Nat → Nat) : Prop := ∃ cur : Array Value, w.heap[mk]? = some (.cells cur 129) ∧ cur.size = n * 2 ∧ ∀ j, j < n → cur[j * 2]? = some (.int .i64 (num j)) ∧ cur[j * 2 + 1]? = some (.int .i64 (low j))
theorem LayM.gro {P : Nat → Prop} {w w' : World} {mk n : Nat} {num low : Nat → Nat} (h : LayM w mk n num low) (hg : Gro P w w') (hn : ¬ P mk) : LayM w' mk n num low := by
  obtain ⟨cur, h1, h2⟩ := h
  exact ⟨cur, hg.at h1 hn, h2⟩
theorem LayM.cell {w : World} {mk n : Nat} {num low : Nat → Nat} (h : LayM w mk n num low) (j : Nat) (hj : j < n) : w.cell? ⟨mk, j * 2, none⟩ = some (.int .i64 (num j)) ∧ w.cell? ⟨mk, j * 2 + 1, none⟩ = some (.int .i64 (low j)) ∧ w.frozen? ⟨mk, j * 2, none⟩ = false ∧ w.frozen? ⟨mk, j * 2 + 1, none⟩ = false := by
  obtain ⟨cur, h1, h2, h3⟩ := h
  exact ⟨(Lib.cell_of_heap h1 _).trans (h3 j hj).1, (Lib.cell_of_heap h1 _).trans (h3 j hj).2, Lib.frozen_of_heap h1 _, Lib.frozen_of_heap h1 _⟩
theorem LayM.low {w : World} {mk n : Nat} {num low : Nat → Nat} (h : LayM w mk n num low) (i x : Nat) (hi : i < n) : LayM (w.setCell ⟨mk, i * 2 + 1, none⟩ (.int .i64 x)) mk n num (updN low i x) := by
  obtain ⟨cur, h1, h2, h3⟩ := h
  refine ⟨cur.setIfInBounds (i * 2 + 1) (.int .i64 x), Go.Joins.block_setCell h1 _, by simpa using h2, fun j hj => ⟨?_, ?_⟩⟩
  · rw [Array.getElem?_setIfInBounds_ne (by omega)]
    exact (h3 j hj).1
  · by_cases e : j = i
    · subst e
      rw [Array.getElem?_setIfInBounds_self_of_lt (by omega), updN_self]
    · rw [Array.getElem?_setIfInBounds_ne (by omega), updN_ne _ _ _ _ e]
      exact (h3 j hj).2
theorem LayM.num {w : World} {mk n : Nat} {num low : Nat → Nat} (h : LayM w mk n num low) (i x : Nat) (hi : i < n) : LayM (w.setCell ⟨mk, i * 2, none⟩ (.int .i64 x)) mk n (updN num i x) low := by
  obtain ⟨cur, h1, h2, h3⟩ := h
  refine ⟨cur.setIfInBounds (i * 2) (.int .i64 x), Go.Joins.block_setCell h1 _, by simpa using h2, fun j hj => ⟨?_, ?_⟩⟩
  · by_cases e : j = i
    · subst e
      rw [Array.getElem?_setIfInBounds_self_of_lt (by omega), updN_self]
    · rw [Array.getElem?_setIfInBounds_ne (by omega), updN_ne _ _ _ _ e]
      exact (h3 j hj).1
  · rw [Array.getElem?_setIfInBounds_ne (by omega)]
    exact (h3 j hj).2
/-- A stop: a node, what is left of its edges, and the slice that holds that. -/
abbrev Stp : Type := (Nat × List Nat) × Value
def waysC (ws : List Stp) : List Value := ws.flatMap fun p => [.int .i64 (p.1.1 : Int), p.2]
theorem waysC_snoc (ws : List Stp) (p : Stp) : waysC (ws ++ [p]) = waysC ws ++ [.int .i64 (p.1.1 : Int), p.2] := by simp [waysC]
theorem waysC_len (ws : List Stp) : (waysC ws).length = ws.length * 2 := by
  induction ws with
  | nil => rfl
  | cons a l ih => simp only [waysC, List.flatMap_cons, List.length_append, List.length_cons, List.length_nil] at ih ⊢; omega
/-- Not a block of the open nodes. -/
def OffB (H : Nat) (ov : Value) (g : Nat) : Prop := H ≤ g ∧ ov.ownBlock ≠ some g
def natI (l : List Nat) : List Int := l.map fun x : Nat => (x : Int)
/-- A search in memory. -/
structure Sr (w : World) (H sb mk : Nat) (outf wv ov fv : Value) (n come : Nat) (num low : Nat → Nat) (ws : List Stp) (opn : List Nat) (fs : List (List Nat × Value)) : Prop where
  box : w.heap[sb]? = some (.cells #[outf, .slice (some ⟨mk, 0, none⟩) n n, .int .i64 come, wv, ov, fv] 115)
  marks : LayM w mk n num low
  wayR : w.ownsRow H 132 2 wv ws.length (waysC ws)
  rests : ∀ p ∈ ws, Part (OffB H ov) w p.2 (natI p.1.2)
  opnR : w.ownsRow H 3 1 ov opn.length (intsV opn)
  fndR : w.ownsRow H 40 1 fv fs.length (fs.map Prod.snd)
  cmps : ∀ p ∈ fs, Part (OffB H ov) w p.2 (natI p.1)
  high : H ≤ sb ∧ H ≤ mk
theorem Sr.cells {w : World} {H sb mk : Nat} {outf wv ov fv : Value} {n come : Nat} {num low : Nat → Nat} {ws : List Stp} {opn : List Nat} {fs : List (List Nat × Value)} (h : Sr w H sb mk outf wv ov fv n come num low ws opn fs) :
    w.cell? ⟨sb, 0, none⟩ = some outf ∧ w.cell? ⟨sb, 1, none⟩ = some (.slice (some ⟨mk, 0, none⟩) n n) ∧ w.cell? ⟨sb, 2, none⟩ = some (.int .i64 come) ∧ w.cell? ⟨sb, 3, none⟩ = some wv ∧ w.cell? ⟨sb, 4, none⟩ = some ov ∧ w.cell? ⟨sb, 5, none⟩ = some fv :=
  ⟨Lib.cell_of_heap h.box 0, Lib.cell_of_heap h.box 1, Lib.cell_of_heap h.box 2, Lib.cell_of_heap h.box 3, Lib.cell_of_heap h.box 4, Lib.cell_of_heap h.box 5⟩
theorem Sr.fz {w : World} {H sb mk : Nat} {outf wv ov fv : Value} {n come : Nat} {num low : Nat → Nat} {ws : List Stp} {opn : List Nat} {fs : List (List Nat × Value)} (h : Sr w H sb mk outf wv ov fv n come num low ws opn fs) (i : Nat) : w.frozen? ⟨sb, i, none⟩ = false := Lib.frozen_of_heap h.box i
/-- What is new behind, or no block of the search, plays no part. -/
theorem Sr.later {w w' : World} {H sb mk : Nat} {outf wv ov fv : Value} {n come : Nat} {num low : Nat → Nat} {ws : List Stp} {opn : List Nat} {fs : List (List Nat × Value)} (h : Sr w H sb mk outf wv ov fv n come num low ws opn fs) (hb : Below w.heap.size w w') : Sr w' H sb mk outf wv ov fv n come num low ws opn fs := by
  have hg : Gro (fun _ => False) w w' := Gro.of_below hb
  exact ⟨hg.at h.box (fun x => x), h.marks.gro hg (fun x => x), own_gro h.wayR hg (fun _ _ x => x), fun p hp => (h.rests p hp).gro hg (fun _ _ x => x), own_gro h.opnR hg (fun _ _ x => x), own_gro h.fndR hg (fun _ _ x => x), fun p hp => (h.cmps p hp).gro hg (fun _ _ x => x), h.high⟩
theorem Sr.apart {w : World} {H sb mk : Nat} {outf wv ov fv : Value} {n come : Nat} {num low : Nat → Nat} {ws : List Stp} {opn : List Nat} {fs : List (List Nat × Value)} (h : Sr w H sb mk outf wv ov fv n come num low ws opn fs) :
    sb ≠ mk ∧ wv.ownBlock ≠ some sb ∧ wv.ownBlock ≠ some mk ∧ ov.ownBlock ≠ some sb ∧ ov.ownBlock ≠ some mk ∧ fv.ownBlock ≠ some sb ∧ fv.ownBlock ≠ some mk := by
  obtain ⟨cur, hm, _⟩ := h.marks
  refine ⟨tags h.box hm (by decide), ?_, ?_, ?_, ?_, ?_, ?_⟩ <;> intro e
  · obtain ⟨_, c, hc⟩ := own_tag h.wayR e; exact tags h.box hc (by decide) rfl
  · obtain ⟨_, c, hc⟩ := own_tag h.wayR e; exact tags hm hc (by decide) rfl
  · obtain ⟨_, c, hc⟩ := own_tag h.opnR e; exact tags h.box hc (by decide) rfl
  · obtain ⟨_, c, hc⟩ := own_tag h.opnR e; exact tags hm hc (by decide) rfl
  · obtain ⟨_, c, hc⟩ := own_tag h.fndR e; exact tags h.box hc (by decide) rfl
  · obtain ⟨_, c, hc⟩ := own_tag h.fndR e; exact tags hm hc (by decide) rfl
theorem part_tag {P : Nat → Prop} {w : World} {v : Value} {l : List Int} (h : Part P w v l) : v = .slice none 0 0 ∨ ∃ g off cap cur, v = .slice (some ⟨g, off, none⟩) l.length cap ∧ P g ∧ w.heap[g]? = some (.cells cur 3) := by
  rcases h with h | ⟨g, off, cap, cur, h1, h2, h3, _⟩
  · exact .inl h.1
  · exact .inr ⟨g, off, cap, cur, h1, h2, h3⟩
/-- A part whose block is of another kind than the one that is turned stays. -/
theorem part_set {P : Nat → Prop} {w : World} {v : Value} {l : List Int} (h : Part P w v l) (x i : Nat) (y : Value) {cs : Array Value} {t : TypeId} (hx : w.heap[x]? = some (.cells cs t)) (ht : t ≠ 3) : Part P (w.setCell ⟨x, i, none⟩ y) v l := by
  rcases h with h | ⟨g, off, cap, cur, h1, h2, h3, h4⟩
  · exact .inl h
  · exact .inr ⟨g, off, cap, cur, h1, h2, (Below.heap_setCell w ⟨x, i, none⟩ y g (fun e => by have e' : g = x := e; exact tags h3 hx (fun c => ht c.symm) e')).trans h3, h4⟩
theorem own_set {B t k n : Nat} {w : World} {v : Value} {xs : List Value} (h : w.ownsRow B t k v n xs) (x i : Nat) (y : Value) {cs : Array Value} {t' : TypeId} (hx : w.heap[x]? = some (.cells cs t')) (ht : t ≠ t') : (w.setCell ⟨x, i, none⟩ y).ownsRow B t k v n xs :=
  own_gro h (gro_set w ⟨x, i, none⟩ y) (fun g hg e => by obtain ⟨_, c, hc⟩ := own_tag h hg; exact tags hc hx ht e)
/-- A cell of the search itself is turned. -/
theorem Sr.mark {w : World} {H sb mk : Nat} {outf wv ov fv : Value} {n come : Nat} {num low : Nat → Nat} {ws : List Stp} {opn : List Nat} {fs : List (List Nat × Value)} (h : Sr w H sb mk outf wv ov fv n come num low ws opn fs) (i : Nat) (y : Value) {num' low' : Nat → Nat} (hm : LayM (w.setCell ⟨mk, i, none⟩ y) mk n num' low') : Sr (w.setCell ⟨mk, i, none⟩ y) H sb mk outf wv ov fv n come num' low' ws opn fs := by
  obtain ⟨cur, hk, _⟩ := h.marks
  exact ⟨(Below.heap_setCell w ⟨mk, i, none⟩ y sb (fun e => h.apart.1 e)).trans h.box, hm, own_set h.wayR mk i y hk (by decide), fun p hp => part_set (h.rests p hp) mk i y hk (by decide), own_set h.opnR mk i y hk (by decide), own_set h.fndR mk i y hk (by decide), fun p hp => part_set (h.cmps p hp) mk i y hk (by decide), h.high⟩

set_option maxHeartbeats 2000000 in
set_option maxRecDepth 100000 in
theorem known_yes {w : World} {H sb mk : Nat} {outf wv ov fv : Value} {n come : Nat} {num low : Nat → Nat} {ws : List Stp} {opn : List Nat} {fs : List (List Nat × Value)} (h : Sr w H sb mk outf wv ov fv n come num low ws opn fs) (v : Nat) (hv : v < n) (hk : num v ≠ 0) :
    Calls Tryz.prog 70 #[.pointer (some ⟨sb, 0, none⟩), .int .i64 v] w fun e w' => e = .returned (.bool true) ∧ w = w' := by
  obtain ⟨c0, c1, c2, c3, c4, c5⟩ := h.cells
  obtain ⟨m0, m1, _, _⟩ := h.marks.cell v hv
  have hvi : (v : Int) < n := by omega
  have hv0 : (0 : Int) ≤ v := by omega
  have hki : ¬ (num v : Int) = 0 := by omega
  have hkb : ((num v : Int) == 0) = false := by simpa using hki
  clear c0 c2 c3 c4 c5 h hk
  generalize num v = a at *
  generalize low v = b at *
  go_enter Tryz.func70, Tryz.ntmps70
  go_wp2_with fail
  go_ret
  exact ⟨rfl, rfl⟩
set_option maxHeartbeats 2000000 in
set_option maxRecDepth 100000 in
theorem known_no {w : World} {H sb mk : Nat} {outf wv ov fv : Value} {n come : Nat} {num low : Nat → Nat} {ws : List Stp} {opn : List Nat} {fs : List (List Nat × Value)} (h : Sr w H sb mk outf wv ov fv n come num low ws opn fs) (v : Nat) (hv : v < n) (hk : num v = 0) (hl : low v = 0) :
    Calls Tryz.prog 70 #[.pointer (some ⟨sb, 0, none⟩), .int .i64 v] w fun e w' => e = .returned (.bool false) ∧ w = w' := by
  obtain ⟨c0, c1, c2, c3, c4, c5⟩ := h.cells
  obtain ⟨m0, m1, _, _⟩ := h.marks.cell v hv
  have hvi : (v : Int) < n := by omega
  have hv0 : (0 : Int) ≤ v := by omega
  rw [hk] at m0
  rw [hl] at m1
  clear c0 c2 c3 c4 c5 h hk hl
  go_enter Tryz.func70, Tryz.ntmps70
  go_wp2_with fail
  go_ret
  exact ⟨rfl, rfl⟩
end Go.Proofs.YtdihbeffomibeaaGreatDoor
