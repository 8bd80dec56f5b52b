/-
  The sort of a row of pairs, behind those that stand.
-/
import Derived.Test.YtbcegdiabnapkaaQ5
namespace Go.Proofs.Ytbcegdiabnapkaa
set_option linter.unusedVariables false
set_option linter.unusedSimpArgs false
open Go.RowKit Go.Lib

theorem cellH {w : World} {g : Nat} {cur : Array Value} {e : TypeId} {fr : Nat × Nat} (h : w.heap[g]? = some (.cells cur e fr)) (o : Nat) : w.cell? ⟨g, o, none⟩ = cur[o]? := by
  unfold World.cell?
  simp only [h]
  simp

def encP (x : Int × Int) : List Value := [.int .i64 x.1, .int .i64 x.2]
theorem encP_len (x : Int × Int) : (encP x).length = 2 := rfl
theorem encP_one (x : Int × Int) : ∀ v ∈ encP x, v.oneCell' = true := fun v hv => by
  simp only [encP, List.mem_cons, List.not_mem_nil, or_false] at hv
  rcases hv with rfl | rfl <;> rfl
def rowsP (l : List (Int × Int)) : List (List Value) := l.map encP
theorem rowsP_size (l : List (Int × Int)) : ∀ r ∈ rowsP l, r.length = 2 := fun r hr => by
  obtain ⟨j, _, rfl⟩ := List.mem_map.1 hr
  rfl
theorem rowsP_len (l : List (Int × Int)) : (rowsP l).length = l.length := by simp [rowsP]
theorem rowsP_append (l l2 : List (Int × Int)) : (rowsP (l ++ l2)).flatten = (rowsP l).flatten ++ (rowsP l2).flatten := by simp [rowsP]
theorem rowsP_flen (l : List (Int × Int)) : (rowsP l).flatten.length = l.length * 2 := by rw [flatten_len 2 _ (rowsP_size l), rowsP_len]
theorem rowsP_at (l : List (Int × Int)) (j : Nat) (hj : j < l.length * 2) : (rowsP l).flatten[j]? = (encP (l.getD (j / 2) default))[j % 2]? := by
  have := flatten_get 2 (rowsP l) (j / 2) (j % 2) (rowsP_size l) (by rw [rowsP_len]; omega) (by omega)
  rw [show j / 2 * 2 + j % 2 = j by omega] at this
  rw [this]
  simp [rowsP, List.getD, show j / 2 < l.length by omega]

set_option maxHeartbeats 1000000 in
/-- pairs$1 -/
theorem byTo_is (x y : Int × Int) (w : World) : Calls Try.prog 33 #[.agg (encP x).toArray, .agg (encP y).toArray] w fun e w' => e = .returned (.int .i64 (cmpI x.2 y.2)) ∧ ∃ q os, w' = Sort.grow (w.drewN q) os := by
  obtain ⟨x0, x1⟩ := x
  obtain ⟨y0, y1⟩ := y
  show Calls Try.prog 33 #[.agg #[.int .i64 x0, .int .i64 x1], .agg #[.int .i64 y0, .int .i64 y1]] w _
  go_enter Try.func33, Try.ntmps33
  go_wp2_with fail
  go_at_call 34
  refine (compare_is _ _ _).mono ?_
  rintro e w5 ⟨rfl, rfl⟩
  go_wp2_with fail
  go_ret
  exact ⟨rfl, 0, _, grow_two _ _ _⟩
def cfP (x y : Int × Int) : Int := cmpI x.2 y.2
theorem cfP_lt (x y : Int × Int) : ltOf cfP x y = decide (x.2 < y.2) := by
  unfold ltOf cfP
  simp only [cmpI_neg]
theorem cfP_swo : Sort.SWO (ltOf cfP) := by
  refine ⟨fun x => ?_, fun x y z h1 h2 => ?_, fun x y z h1 h2 => ?_⟩ <;> simp only [cfP_lt, decide_eq_true_eq, decide_eq_false_iff_not] at * <;> omega

/-- What the sort of a row leaves. -/
def RowPost (B : Nat) (w : World) (g cap : Nat) (l l2 : List (Int × Int)) (w' : World) : Prop := ∃ l3, l3.Perm l2 ∧ (∀ i j, i < j → j < l3.length → (l3.getD i default).2 ≤ (l3.getD j default).2) ∧ w'.ownsRow B 30 2 (.slice (some ⟨g, 0, none⟩) (l.length + l2.length) cap) (l.length + l2.length) (rowsP (l ++ l3)).flatten ∧ w.grownBy w' (some g)

theorem sortRow_call (B : Nat) (w : World) (g cap : Nat) (l l2 : List (Int × Int)) (hown : w.ownsRow B 30 2 (.slice (some ⟨g, 0, none⟩) (l.length + l2.length) cap) (l.length + l2.length) (rowsP (l ++ l2)).flatten) (hsz : l2.length < 100000) :
    Calls Try.prog 32 #[.slice (some ⟨g, l.length * 2, none⟩) l2.length (cap - l.length), .func (.func 33) #[] #[]] w fun e w' => e = .returned (.tuple #[]) ∧ RowPost B w g cap l l2 w' := by
  have hg := hown.lt g rfl
  obtain ⟨cur, hcur, hcl, hcm, hcs, hct⟩ : ∃ cur, w.heap[g]? = some (.cells cur 30 (0, 0)) ∧ l.length + l2.length ≤ cap ∧ cap ≤ maxLen ∧ cur.size = cap * 2 ∧ cur.toList.take ((l.length + l2.length) * 2) = (rowsP (l ++ l2)).flatten := by
    rcases hown.2 with ⟨hv, _⟩ | ⟨g', cap', cur, hv, _, hh, h1, h2, h3, h4⟩
    · cases hv
    · simp only [Value.slice.injEq, Option.some.injEq, Addr.mk.injEq, and_true, true_and] at hv
      obtain ⟨rfl, rfl⟩ := hv
      exact ⟨cur, hh, h1, h2, h3, h4⟩
  have hcell : ∀ j, j < (l.length + l2.length) * 2 → w.cell? ⟨g, j, none⟩ = (rowsP (l ++ l2)).flatten[j]? := fun j hj => by
    rw [cellH hcur, ← hct, List.getElem?_take_of_lt hj, Array.getElem?_toList]
  have hfz : ∀ o, w.frozen? ⟨g, o, none⟩ = false := fun o => by unfold World.frozen?; simp only [hcur]; simp
  have hH : Sort.HoldsK encP 2 w g (l.length * 2) l2.toArray := fun j hj => by
    rw [Sort.size_flatK] at hj
    have hj' : j < l2.length * 2 := by simpa using hj
    refine ⟨?_, hfz _⟩
    rw [Sort.get_flatK _ _ _ _ hj, hcell _ (by omega), rowsP_append, List.getElem?_append_right (by rw [rowsP_flen]; omega), rowsP_flen, Nat.add_sub_cancel_left, rowsP_at l2 j hj']
    have e1 : l2.toArray[j / 2]! = l2.getD (j / 2) default := by
      rw [getElem!_pos _ _ (by simp; omega)]
      simp [List.getD, show j / 2 < l2.length by omega]
    rw [e1]
    generalize l2.getD (j / 2) default = z
    have h2 : j % 2 = 0 ∨ j % 2 = 1 := by omega
    rcases h2 with h2 | h2 <;> rw [h2] <;> rfl
  have hcmp : CmpLays Try.prog 33 #[] encP 2 cfP g (l.length * 2) l2.toArray.size w := fun m os dk _ x y => byTo_is x y _
  have key := AnyQ.slices_SortFunc Try.sort32 2 Try.isAgg30 Try.sizeOf30 encP encP_len encP_one cfP cfP_swo 33 #[] g (l.length * 2) (cap - l.length) l2.toArray w (enters_of Try.func33 (by kernel_rfl) rfl) hcmp hH hg.2 (by simp; omega)
  refine key.mono fun e w' ⟨he, d', n, os, hp, hs, hw⟩ => ⟨he, d'.toList, ?_, fun i j h1 h2 => ?_, ?_, ?_⟩
  · have h3 := hp.2.2
    have hz : d'.size = l2.toArray.size := hp.1
    rw [← hz, Array.extract_size, hz, Array.extract_size] at h3
    exact h3
  · have hz : d'.size = l2.length := by have := hp.1; simpa using this
    have h2' : j < d'.size := by simpa using h2
    have := hs i j (Nat.zero_le _) h1 (by simpa [hz] using h2')
    rw [cfP_lt] at this
    have h3 : ¬ (d'[j]!).2 < (d'[i]!).2 := of_decide_eq_false this
    have e1 : d'.toList.getD i default = d'[i]! := by rw [getElem!_pos d' i (by omega)]; simp [List.getD, show i < d'.size by omega]
    have e2 : d'.toList.getD j default = d'[j]! := by rw [getElem!_pos d' j (by omega)]; simp [List.getD, h2']
    rw [e1, e2]
    omega
  · have hz : d'.size = l2.length := by have := hp.1; simpa using this
    have hh : w'.heap[g]? = some (.cells (Sort.putCells id (l.length * 2) (Sort.flatK encP 2 d') cur) 30 (0, 0)) := by
      rw [hw]
      show ((Sort.putRow id (Sort.ahead w n) g (l.length * 2) (Sort.flatK encP 2 d')).heap ++ os)[g]? = _
      rw [Array.getElem?_append_left (by simp [Sort.putRow, Sort.mapBlock, Sort.ahead]; exact hg.2)]
      show ((w.heap).modify g _)[g]? = _
      rw [Array.getElem?_modify, if_pos rfl, hcur]
      rfl
    refine ⟨by rw [rowsP_flen]; simp [hz], .inr ⟨g, cap, _, rfl, hg.1, hh, hcl, hcm, by simp [Sort.putCells, hcs], ?_⟩⟩
    apply List.ext_getElem?
    intro j
    by_cases hj : j < (l.length + l2.length) * 2
    · rw [List.getElem?_take_of_lt hj, Array.getElem?_toList]
      have hjc : j < cur.size := by rw [hcs]; omega
      have hold : cur[j]? = (rowsP (l ++ l2)).flatten[j]? := by rw [← hct, List.getElem?_take_of_lt hj, Array.getElem?_toList]
      simp only [Sort.putCells, Array.getElem?_mapIdx, Sort.size_flatK]
      rw [rowsP_append]
      by_cases hjl : j < l.length * 2
      · rw [rowsP_append, List.getElem?_append_left (by rw [rowsP_flen]; exact hjl)] at hold
        rw [List.getElem?_append_left (by rw [rowsP_flen]; exact hjl), ← hold, Array.getElem?_eq_getElem hjc]
        simp only [Option.map_some]
        rw [if_neg (by omega)]
      · rw [List.getElem?_append_right (by rw [rowsP_flen]; omega), rowsP_flen, rowsP_at _ _ (by simp [hz]; omega), Array.getElem?_eq_getElem hjc]
        simp only [Option.map_some]
        rw [if_pos (by rw [hz]; omega), Sort.get_flatK _ _ _ _ (by rw [hz]; omega)]
        have e1 : d'.toList.getD ((j - l.length * 2) / 2) default = d'[(j - l.length * 2) / 2]! := by rw [getElem!_pos d' _ (by rw [hz]; omega)]; simp [List.getD, show (j - l.length * 2) / 2 < d'.size by rw [hz]; omega]
        rw [e1]
        generalize d'[(j - l.length * 2) / 2]! = z
        have h2 : (j - l.length * 2) % 2 = 0 ∨ (j - l.length * 2) % 2 = 1 := by omega
        rcases h2 with h2 | h2 <;> rw [h2] <;> rfl
    · rw [List.getElem?_eq_none (by simp; omega), List.getElem?_eq_none (by rw [rowsP_flen]; simp [hz]; omega)]
  · rw [hw]
    refine ⟨rfl, rfl, rfl, ?_, fun i hi hne => ?_⟩
    · simp [sortWorldK, Sort.grow, Sort.putRowK, Sort.putRow, Sort.mapBlock, Sort.ahead]
    · show ((Sort.putRow id (Sort.ahead w n) g (l.length * 2) (Sort.flatK encP 2 d')).heap ++ os)[i]? = _
      rw [Array.getElem?_append_left (by simp [Sort.putRow, Sort.mapBlock, Sort.ahead]; exact hi)]
      show ((w.heap).modify g _)[i]? = _
      rw [Array.getElem?_modify, if_neg (fun e => hne (by rw [e]))]
end Go.Proofs.Ytbcegdiabnapkaa
