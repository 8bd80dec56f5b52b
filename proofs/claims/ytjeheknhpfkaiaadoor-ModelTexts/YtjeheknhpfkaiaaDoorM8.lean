/-
  copied, List, Value of a state.
-/
import Derived.Test.YtjeheknhpfkaiaaDoorM7
import Derived.Laws.CopyOwn
import Derived.Deep.OwnRows
namespace Go.Proofs.YtjeheknhpfkaiaaDoor
set_option linter.unusedVariables false
set_option linter.unusedSimpArgs false
open Go.RowKit Go.Lib Go.Maps

set_option maxHeartbeats 2000000 in
/-- The same values in memory of their own. -/
theorem copied_is (w : World) (a : Option Addr) (c : Nat) (xs : List Int) (h : IntCells w a xs xs.length) (hl : xs.length * 8 ≤ 140737488355328) :
    Calls Tryd.prog 21 #[.slice a xs.length c] w fun e w' => ∃ v, e = .returned v ∧ w'.ownsRow w.heap.size 3 1 v xs.length (xs.map (Value.int .i64)) ∧ Below w.heap.size w w' := by
  have hmk : ∀ W : World, (Instr.makeSlice 47 (.int .i64 (xs.length : Int)) (.int .i64 (xs.length : Int))).run Tryd.prog W = .ok (.slice (some ⟨W.heap.size, 0, none⟩) xs.length xs.length) (W.alloc (.cells (madeCells #[.int .i64 0] xs.length) 3)) := fun W => run_make_row' 47 3 (.int .i64 0) 8 Tryd.underlying47 Tryd.infoInt rfl .i64 .i64 xs.length (by omega) (by omega) W
  have HH := hid h
  obtain ⟨n, hn⟩ : ∃ n, xs.length = n := ⟨_, rfl⟩
  have HN := hid hn
  rw [hn] at hmk hl HH ⊢
  have hsz : (Tryd.prog.info? 3).map (·.size) = some 1 := by kernel_rfl
  have HSZ := hid hsz
  clear h hn hsz
  have hnn : (n : Int) ≤ 17592186044416 := by omega
  obtain ⟨cs, hcs⟩ : ∃ cs, xs.map (Value.int .i64) = cs := ⟨_, rfl⟩
  have HCS := hid hcs
  have HLC : Hid (cs.length = n) := by show cs.length = n; rw [← hcs, List.length_map, HN.out]
  rw [hcs]
  clear hcs
  have HP : Hid (0 < cs.length → (some ⟨w.heap.size, 0, none⟩ : Option Addr) = some ⟨w.heap.size, 0, none⟩ ∧ ∃ ad, a = some ad ∧ ∀ j v, cs[j]? = some v → (w.alloc (.cells (madeCells #[.int .i64 0] n) 3)).cell? (ad.add j) = some v) := fun h0 => by
    refine ⟨rfl, ?_⟩
    rw [HLC.out] at h0
    obtain ⟨b, o, ha, _⟩ := HH.out 0 h0
    refine ⟨⟨b, o, none⟩, ha, fun j v hj => ?_⟩
    have hjl : j < n := by
      have := (List.getElem?_eq_some_iff.1 hj).1
      rw [HLC.out] at this
      exact this
    obtain ⟨b2, o2, ha2, hc2⟩ := HH.out j hjl
    obtain ⟨e1, e2⟩ : b = b2 ∧ o = o2 := by rw [ha] at ha2; simpa using ha2
    subst e1 e2
    rw [Addr.add_lit]
    have hv : v = .int .i64 (xs.getD j default) := by
      rw [← HCS.out, List.getElem?_map] at hj
      have hjx : j < xs.length := by rw [HN.out]; exact hjl
      simp [List.getD, hjx] at hj ⊢
      exact hj.symm
    rw [hv]
    exact ((below_box w _).cell (p := ⟨b, o + j, none⟩) (World.block_lt_of_cell? _ _ hc2)).trans hc2
  have H1 : Hid (∀ v ∈ cs, v.oneCell' = true) := fun v hv => by
    rw [← HCS.out] at hv
    obtain ⟨z, _, rfl⟩ := List.mem_map.1 hv
    rfl
  have HMN : Hid (cs.length = Nat.min n n) := by show cs.length = Nat.min n n; rw [HLC.out]; exact (Nat.min_self n).symm
  have HBK : Hid ((w.alloc (.cells (madeCells #[.int .i64 0] n) 3)).heap[w.heap.size]? = some (.cells (madeCells #[.int .i64 0] n) 3 (0, 0))) := by show _ = _; rw [alloc_at, if_pos rfl]
  have HCP : Hid (∃ w5, (Builtin.copy_ #[47, 47] 3 #[.slice (some ⟨w.heap.size, 0, none⟩) n n, .slice a n c]).run Tryd.prog (w.alloc (.cells (madeCells #[.int .i64 0] n) 3)) = .ok (goInt cs.length) w5 ∧ w5.heap[w.heap.size]? = some (.cells cs.toArray 3 (0, 0)) ∧ Below w.heap.size w w5) := by
    by_cases h0 : n = 0
    · have hcs0 : cs = [] := List.length_eq_zero_iff.1 (by rw [HLC.out]; exact h0)
      refine ⟨w.alloc (.cells (madeCells #[.int .i64 0] n) 3), ?_, ?_, below_box w _⟩
      · rw [hcs0]
        exact run_copy_none _ 47 47 3 3 _ _ n n n c Tryd.underlying47 HSZ.out (by rw [h0]; rfl)
      · rw [HBK.out, hcs0, h0]
        have e : madeCells #[Value.int .i64 0] 0 = #[] := Array.eq_empty_of_size_eq_zero (by rw [size_madeCells])
        rw [e]
    · obtain ⟨_, ad, ha, hsrc⟩ := HP.out (by rw [HLC.out]; omega)
      subst ha
      refine ⟨_, run_copy_row (P := Tryd.prog) _ 47 47 3 3 w.heap.size 0 n n ad n c _ 3 cs Tryd.underlying47 HSZ.out HBK.out HMN.out hsrc (by rw [HLC.out, size_madeCells]; omega) H1.out, ?_, ?_⟩
      · rw [setRow_heap _ _ _ _ 3 _ HBK.out]
        have e : (madeCells #[Value.int .i64 0] n).toList.take 0 ++ cs ++ (madeCells #[Value.int .i64 0] n).toList.drop (0 + cs.length) = cs := by
          rw [List.take_zero, List.nil_append, List.drop_of_length_le (by rw [HLC.out, toList_madeCells_one, List.length_replicate]; omega), List.append_nil]
        rw [e]
      · exact below_setRow (below_box w _) (Nat.le_refl _) _
  obtain ⟨w5, hcp, hg5, hb5⟩ := HCP.out
  have G5 := hid hg5
  have B5 := hid hb5
  clear HCP HP H1 HBK HMN hg5 hb5
  go_enter Tryd.func21, Tryd.ntmps21
  go_wp2_with fail
  go_ret
  refine ⟨_, rfl, ⟨by rw [HLC.out]; omega, .inr ⟨w.heap.size, n, cs.toArray, rfl, Nat.le_refl _, G5.out, Nat.le_refl _, by unfold maxLen; omega, ?_, ?_⟩⟩, B5.out⟩
  · show cs.length = n * 1
    rw [HLC.out]
    omega
  · show cs.take (n * 1) = cs
    rw [List.take_of_length_le (by rw [HLC.out]; omega)]
end Go.Proofs.YtjeheknhpfkaiaaDoor
