/-
  The document's order: New, Add.
-/
import Derived.Test.YtmnfmilgpglfcaaK4
namespace Go.Proofs.Ytmnfmilgpglfcaa
set_option linter.unusedVariables false
set_option linter.unusedSimpArgs false
open Go.RowKit

theorem Try.info64 : (Try.prog.info? 51).map (fun i => (i.zero, i.size, i.bytes)) = some (some (.agg #[.int .i64 0, .int .i64 0, .bool false]), 3, 24) := by kernel_rfl
/-- What was added: cells. -/
def triV (p : Nat × Nat × Bool) : List Value := [.int .i64 p.1, .int .i64 p.2.1, .bool p.2.2]
def trisV (l : List (Nat × Nat × Bool)) : List Value := l.flatMap triV
theorem trisV_snoc (l : List (Nat × Nat × Bool)) (e : Nat × Nat × Bool) : trisV (l ++ [e]) = trisV l ++ triV e := by
  unfold trisV
  simp
/-- The document's order in block b. -/
structure RefO (H : Nat) (w : World) (b n : Nat) (ps : List (Nat × Nat × Bool)) : Prop where
  ex : ∃ v, w.heap[b]? = some (.cells #[.int .i64 n, v] 47) ∧ w.ownsRow H 51 3 v ps.length (trisV ps)
  low : H ≤ b
  bound : n ≤ 300
  lt : ∀ p ∈ ps, p.1 < n ∧ p.2.1 < n
theorem RefO.gro {P : Nat → Prop} {H : Nat} {w w' : World} {b n : Nat} {ps : List (Nat × Nat × Bool)} (h : RefO H w b n ps) (hg : Gro P w w') (hP : ∀ x cs t, w.heap[x]? = some (.cells cs t) → t = 47 ∨ t = 51 → ¬ P x) : RefO H w' b n ps := by
  obtain ⟨v, h1, h2⟩ := h.ex
  refine ⟨⟨v, hg.at h1 (hP _ _ _ h1 (.inl rfl)), h2.1, ?_⟩, h.low, h.bound, h.lt⟩
  rcases h2.2 with h3 | ⟨g, cap, cur, k1, k2, k3, k4⟩
  · exact .inl h3
  · exact .inr ⟨g, cap, cur, k1, k2, hg.at k3 (hP _ _ _ k3 (.inr rfl)), k4⟩
theorem RefO.later {H : Nat} {w w' : World} {b n : Nat} {ps : List (Nat × Nat × Bool)} (h : RefO H w b n ps) (hb : Below w.heap.size w w') : RefO H w' b n ps := h.gro (Gro.of_below (P := fun _ => False) hb) (fun _ _ _ _ _ h => h)
theorem trisV_at (l : List (Nat × Nat × Bool)) (j : Nat) (hj : j < l.length) : (trisV l)[3 * j]? = some (.int .i64 l[j].1) ∧ (trisV l)[3 * j + 1]? = some (.int .i64 l[j].2.1) ∧ (trisV l)[3 * j + 2]? = some (.bool l[j].2.2) := by
  induction l generalizing j with
  | nil => simp at hj
  | cons e l ih =>
    have e0 : trisV (e :: l) = triV e ++ trisV l := by unfold trisV; simp
    rw [e0]
    cases j with
    | zero => simp [triV]
    | succ j =>
      have hl : (triV e).length = 3 := rfl
      obtain ⟨h0, h1, h2⟩ := ih j (by simp at hj; omega)
      have a0 : 3 * (j + 1) = (triV e).length + 3 * j := by omega
      have a1 : 3 * (j + 1) + 1 = (triV e).length + (3 * j + 1) := by omega
      have a2 : 3 * (j + 1) + 2 = (triV e).length + (3 * j + 2) := by omega
      rw [a0]
      rw [a0] at a1 a2
      rw [a1, a2]
      simp only [List.getElem?_append_right (Nat.le_add_right _ _), Nat.add_sub_cancel_left]
      simpa using ⟨h0, h1, h2⟩
/-- What a walk reads of it. -/
theorem RefO.form {H : Nat} {w : World} {b n : Nat} {ps : List (Nat × Nat × Bool)} (h : RefO H w b n ps) : ∃ ao cap, w.cell? ⟨b, 0, none⟩ = some (.int .i64 n) ∧ w.cell? ⟨b, 1, none⟩ = some (.slice ao ps.length cap) ∧ ∀ j (hj : j < ps.length), ∃ g, ao = some ⟨g, 0, none⟩ ∧ w.cell? ⟨g, j * 3, none⟩ = some (.int .i64 ps[j].1) ∧ w.cell? ⟨g, j * 3 + 1, none⟩ = some (.int .i64 ps[j].2.1) ∧ w.cell? ⟨g, j * 3 + 2, none⟩ = some (.bool ps[j].2.2) := by
  obtain ⟨v, h1, h2⟩ := h.ex
  have c0 : w.cell? ⟨b, 0, none⟩ = some (.int .i64 n) := Lib.cell_of_heap h1 0
  have c1 : w.cell? ⟨b, 1, none⟩ = some v := Lib.cell_of_heap h1 1
  rcases h2.2 with ⟨hv, hn⟩ | ⟨g, cap, cur, hv, hB, hg, hnc, hm, hs, ht⟩
  · exact ⟨none, 0, c0, by rw [c1, hv, hn], fun j hj => by omega⟩
  · refine ⟨some ⟨g, 0, none⟩, cap, c0, by rw [c1, hv], fun j hj => ⟨g, rfl, ?_⟩⟩
    obtain ⟨k0, k1, k2⟩ := trisV_at ps j hj
    rw [← ht, List.getElem?_take] at k0 k1 k2
    rw [if_pos (by omega)] at k0 k1 k2
    refine ⟨?_, ?_, ?_⟩
    · rw [Lib.cell_of_heap hg]
      simpa [Nat.mul_comm] using k0
    · rw [Lib.cell_of_heap hg]
      simpa [Nat.mul_comm] using k1
    · rw [Lib.cell_of_heap hg]
      simpa [Nat.mul_comm] using k2

theorem rnew_ok (n : Nat) (hn : n ≤ 300) (w : World) : Calls Try.prog 9 #[.int .i64 n] w fun e w' => e = .returned (.tuple #[.pointer (some ⟨w.heap.size, 0, none⟩), .int .i64 0]) ∧ RefO w.heap.size w' w.heap.size n [] ∧ Below w.heap.size w w' := by
  have h0 : ¬ (n : Int) < 0 := by omega
  have h1 : ¬ (300 : Int) < n := by omega
  go_enter Try.func9, Try.ntmps9
  go_wp2_with fail
  go_ret2
  exact ⟨rfl, ⟨⟨_, heap_alloc_new w _, World.ownsRow_nil _ _ _ _⟩, Nat.le_refl _, hn, fun p hp => by cases hp⟩, below_box _ _⟩
theorem rnew_no (n : Int) (hn : n < 0 ∨ 300 < n) (w : World) : Calls Try.prog 9 #[.int .i64 n] w fun e w' => e = .returned (.tuple #[.pointer none, .int .i64 1]) ∧ w = w' := by
  rcases hn with h | h
  · go_enter Try.func9, Try.ntmps9
    go_wp2
    go_ret2
    exact ⟨rfl, rfl⟩
  · have h0 : ¬ n < 0 := by omega
    go_enter Try.func9, Try.ntmps9
    go_wp2
    go_ret2
    exact ⟨rfl, rfl⟩
set_option maxHeartbeats 1000000 in
theorem radd_off (H b n : Nat) (ps : List (Nat × Nat × Bool)) (x y : Int) (t : Bool) (w : World) (h : RefO H w b n ps) (hi : inB n x y = false) :
    Calls Try.prog 11 #[.pointer (some ⟨b, 0, none⟩), .int .i64 x, .int .i64 y, .bool t] w fun e w' => e = .returned (.int .i64 1) ∧ w = w' := by
  obtain ⟨ao, cap, c0, c1, hc⟩ := h.form
  clear h hc
  have hi2 : x < 0 ∨ (n : Int) ≤ x ∨ y < 0 ∨ (n : Int) ≤ y := by
    unfold inB at hi
    simp at hi
    omega
  clear hi
  by_cases h1 : x < 0
  · go_enter Try.func11, Try.ntmps11
    go_wp2
    go_ret
    exact ⟨rfl, rfl⟩
  · by_cases h2 : (n : Int) ≤ x
    · go_enter Try.func11, Try.ntmps11
      go_wp2
      go_ret
      exact ⟨rfl, rfl⟩
    · by_cases h3 : y < 0
      · go_enter Try.func11, Try.ntmps11
        go_wp2
        go_ret
        exact ⟨rfl, rfl⟩
      · have h4 : (n : Int) ≤ y := by omega
        go_enter Try.func11, Try.ntmps11
        go_wp2
        go_ret
        exact ⟨rfl, rfl⟩
set_option maxHeartbeats 2000000 in
theorem radd_ok (H b n : Nat) (ps : List (Nat × Nat × Bool)) (x y : Nat) (t : Bool) (w : World) (h : RefO H w b n ps) (hx : x < n) (hy : y < n) (hl : ps.length ≤ 1000) :
    Calls Try.prog 11 #[.pointer (some ⟨b, 0, none⟩), .int .i64 x, .int .i64 y, .bool t] w fun e w' => e = .returned (.int .i64 0) ∧ RefO H w' b n (ps ++ [(x, y, t)]) ∧ Gro (Tg [47, 51] H w) w w' := by
  obtain ⟨i0, hi, hz'⟩ := Option.map_eq_some_iff.1 Try.info64
  simp only [Prod.mk.injEq] at hz'
  obtain ⟨hz0, hz1, hz2⟩ := hz'
  have HI := hid hi
  have HZ0 := hid hz0
  have HZ1 := hid hz1
  have HZ2 := hid hz2
  clear hi hz0 hz1 hz2
  obtain ⟨v, h1, h2⟩ := h.ex
  have hlow := h.low
  have hblt := blt h1
  have c0 : w.cell? ⟨b, 0, none⟩ = some (.int .i64 n) := Lib.cell_of_heap h1 0
  have c1 : w.cell? ⟨b, 1, none⟩ = some v := Lib.cell_of_heap h1 1
  have f1 : w.frozen? ⟨b, 1, none⟩ = false := Lib.frozen_of_heap h1 1
  obtain ⟨ao, cp, hv⟩ : ∃ ao cp, v = .slice ao ps.length cp := by
    rcases h2.2 with ⟨hv, hn⟩ | ⟨g, cap, cur, hv, _⟩
    · exact ⟨none, 0, by rw [hv, hn]⟩
    · exact ⟨_, _, hv⟩
  subst hv
  have a1 : ¬ (x : Int) < 0 := by omega
  have a2 : ¬ (n : Int) ≤ x := by omega
  have a3 : ¬ (y : Int) < 0 := by omega
  have a4 : ¬ (n : Int) ≤ y := by omega
  have HO := hid h
  have H1 := hid h1
  have H2 := hid h2
  have NE : Hid (∀ g, (Value.slice ao ps.length cp).ownBlock = some g → g ≠ b ∧ H ≤ g ∧ g < w.heap.size ∧ ∃ cs, w.heap[g]? = some (.cells cs 51)) := by
    intro g hg
    rcases h2.2 with ⟨hv, hn⟩ | ⟨g', cap, cur, hv, hB, hh, _⟩
    · rw [hv] at hg; simp [Value.ownBlock] at hg
    · rw [hv] at hg
      simp [Value.ownBlock] at hg
      subst hg
      exact ⟨(tags h1 hh (by decide)).symm, hB, blt hh, cur, hh⟩
  clear h h1 h2
  obtain ⟨M, hM⟩ : ∃ M, ps.length = M := ⟨_, rfl⟩
  rw [hM] at hl c1 H1 H2 NE
  have HM := hid hM
  clear hM
  go_enter Try.func11, Try.ntmps11
  go_wp2_with (at_builtin; refine wpList_append_lies _ rfl _ _ 45 rfl H 51 i0 _ 3 24 Try.underlying45 HI.out HZ0.out HZ1.out HZ2.out rfl (by decide) (.slice ao M cp) M (trisV ps) rfl ?hown ⟨w.heap.size, 0, none⟩ 1 1 (triV (x, y, t)) rfl rfl ?hnews ?hone (by decide) ?h63 ?hby ?hbase (w.heap.size + 1) ?hH ?_)
  case hown => exact World.ownsRow.alloc H2.out _
  case hnews => first | exact fun _ _ h => h | exact World.news_of_block (heap_alloc_new w (.cells #[.int .i64 x, .int .i64 y, .bool t] 51))
  case hone => intro u hu; unfold triV at hu; simp at hu; rcases hu with rfl | rfl | rfl <;> rfl
  case h63 => unfold maxLen; omega
  case hby => omega
  case hbase => first | omega | (simp; omega)
  all_goals try (case hH => simp)
  intro g cap w4 hown4 hgrow hat hglt
  have BB : Hid (w4.heap[b]? = some (.cells #[.int .i64 n, .slice ao M cp] 47)) := by
    refine (hgrow.block b (by simp; omega) (fun e => ?_)).trans ((Lib.alloc_old _ _ b hblt).trans H1.out)
    exact (NE.out b e.symm).1 rfl
  have b1 : w4.cell? ⟨b, 1, none⟩ = some (.slice ao M cp) := Lib.cell_of_heap BB.out 1
  have bf : w4.frozen? ⟨b, 1, none⟩ = false := Lib.frozen_of_heap BB.out 1
  have G4 : Hid (Gro (Tg [47, 51] H w) w w4) := ⟨hgrow.os, hgrow.tape, hgrow.output, by have := hgrow.size; simp at this; omega, fun k hk hn => by
    refine (hgrow.block k (by simp; omega) (fun e => ?_)).trans (Lib.alloc_old _ _ k hk)
    obtain ⟨_, q1, _, cs, q2⟩ := NE.out k e.symm
    exact hn ⟨q1, cs, 51, q2, by simp⟩⟩
  have O4 : Hid (w4.ownsRow H 51 3 (.slice (some ⟨g, 0, none⟩) (M + 1) cap) (M + 1) (trisV (ps ++ [(x, y, t)]))) := by
    rw [trisV_snoc]
    exact hown4
  clear hown4 hgrow hat hglt
  go_wp2_with fail
  go_ret
  refine ⟨rfl, ⟨⟨.slice (some ⟨g, 0, none⟩) (M + 1) cap, (Go.Joins.block_setCell BB.out _).trans (by simp), ?_⟩, hlow, HO.out.bound, fun p hp => ?_⟩, ?_⟩
  · rw [List.length_append, HM.out]
    refine World.ownsRow.kept (row := some b) O4.out ⟨rfl, rfl, rfl, by simp, fun k hk hn => Below.heap_setCell _ _ _ k (fun e => hn (by rw [e]))⟩ ?_
    right
    rcases O4.out.2 with ⟨hv, _⟩ | ⟨g', cap', cur, hv, _, hh, _⟩
    · cases hv
    · injection hv with e1 e2 e3
      injection e1 with e1
      injection e1 with e1
      subst e1
      simp [Value.ownBlock]
      exact (tags BB.out hh (by decide)).symm
  · rcases List.mem_append.1 hp with h | h
    · exact HO.out.lt p h
    · have e : p = (x, y, t) := by simpa using h
      subst e
      exact ⟨hx, hy⟩
  · refine G4.out.trans ⟨rfl, rfl, rfl, by simp, fun k hk hn => Below.heap_setCell _ _ _ k (fun e => hn ?_)⟩
    have e' : k = b := e
    subst e'
    exact ⟨hlow, _, 47, H1.out, by simp⟩
end Go.Proofs.Ytmnfmilgpglfcaa
