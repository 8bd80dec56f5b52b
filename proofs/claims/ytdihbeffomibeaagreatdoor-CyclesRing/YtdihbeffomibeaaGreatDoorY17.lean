/-
  The components found, sorted by their first nodes.
  Components.
  Cyclic.
-/
import Derived.Test.YtdihbeffomibeaaGreatDoorY16
import Derived.Test.YtdihbeffomibeaaGreatDoorY12
namespace Go.Proofs.YtdihbeffomibeaaGreatDoor
set_option linter.unusedVariables false
set_option linter.unusedSimpArgs false
open Go.RowKit Go.Shelf

section
variable {α : Type} [Inhabited α]
theorem heap_srt {w : World} {g n : Nat} {os : Array Obj} {cur : Array Value} {e : TypeId} {fr : Nat × Nat} (enc : α → Value) (d : Array α) (hb : w.heap[g]? = some (.cells cur e fr)) :
    (sortWorld enc w g 0 n d os).heap[g]? = some (.cells (Sort.putCells enc 0 d cur) e fr) := by
  have hg : g < w.heap.size := (Array.getElem?_eq_some_iff.1 hb).1
  unfold sortWorld
  rw [Sort.heap_grow_old _ _ (by simpa using hg)]
  simp [Sort.putRow, Sort.mapBlock, Sort.ahead, Array.getElem?_modify, hb, Sort.onCells]
theorem gro_srt {w : World} {g n : Nat} {os : Array Obj} (enc : α → Value) (d : Array α) : Gro (fun k => k = g) w (sortWorld enc w g 0 n d os) := by
  refine ⟨rfl, rfl, rfl, by simp [sortWorld], fun k hk hne => ?_⟩
  unfold sortWorld
  rw [Sort.heap_grow_old _ _ (by simpa using hk)]
  simp [Sort.putRow, Sort.mapBlock, Sort.ahead, Array.getElem?_modify, show ¬ g = k from fun e => hne e.symm]
theorem take_srt (enc : α → Value) (cur : Array Value) (d : Array α) (h : d.size ≤ cur.size) : (Sort.putCells enc 0 d cur).toList.take d.size = d.toList.map enc := by
  apply List.ext_getElem?
  intro j
  by_cases hj : j < d.size
  · rw [List.getElem?_take_of_lt hj, Array.getElem?_toList]
    simp [Sort.putCells, hj, show j < cur.size by omega]
  · rw [List.getElem?_take_eq_none (by omega), List.getElem?_eq_none (by simp; omega)]
end
/-- Components in memory: the slice of them, and each. -/
def Fnd (w : World) (H : Nat) (v : Value) (fs : List (List Nat × Value)) : Prop := w.ownsRow H 40 1 v fs.length (fs.map Prod.snd) ∧ ∀ p ∈ fs, Part (fun g => H ≤ g) w p.2 (natI p.1)
def hd (fs : List (List Nat × Value)) (i : Nat) : Nat := (fs.getD i ([], .slice none 0 0)).1.headD 0
def encF (fs : List (List Nat × Value)) {N : Nat} (i : Fin (N + 1)) : Value := (fs.getD i.val ([], .slice none 0 0)).2
def cfF (fs : List (List Nat × Value)) {N : Nat} (i j : Fin (N + 1)) : Int := cmpI (hd fs i.val) (hd fs j.val)
theorem cfF_lt (fs : List (List Nat × Value)) {N : Nat} (i j : Fin (N + 1)) : ltOf (cfF fs) i j = decide (hd fs i.val < hd fs j.val) := by
  unfold ltOf cfF cmpI
  by_cases h1 : (hd fs i.val : Int) < (hd fs j.val : Int)
  · rw [if_pos h1]; simp; omega
  · rw [if_neg h1]
    by_cases h2 : (hd fs j.val : Int) < (hd fs i.val : Int)
    · rw [if_pos h2]; simp; omega
    · rw [if_neg h2]; simp; omega
theorem cfF_swo (fs : List (List Nat × Value)) {N : Nat} : Sort.SWO (ltOf (cfF fs (N := N))) := by
  refine ⟨fun x => ?_, fun x y z h1 h2 => ?_, fun x y z h1 h2 => ?_⟩ <;> simp only [cfF_lt, decide_eq_true_eq, decide_eq_false_iff_not] at * <;> omega
/-- The heads of components are unlike. -/
def Apart (fs : List (List Nat × Value)) : Prop := (∀ p ∈ fs, p.1 ≠ []) ∧ fs.Pairwise (fun p q => p.1.headD 0 ≠ q.1.headD 0)
theorem Apart.ne {fs : List (List Nat × Value)} (h : Apart fs) {i j : Nat} (hi : i < fs.length) (hj : j < fs.length) (hij : i ≠ j) : hd fs i ≠ hd fs j := by
  have key : ∀ i j, i < j → j < fs.length → hd fs i ≠ hd fs j := fun i j h1 h2 => by
    have := (List.pairwise_iff_getElem.1 h.2) i j (by omega) h2 h1
    simpa [hd, List.getD, show i < fs.length by omega, h2] using this
  rcases Nat.lt_or_gt_of_ne hij with c | c
  · exact key i j c hj
  · exact fun e => key j i c hi e.symm

set_option maxHeartbeats 4000000 in
theorem found_sorted (w : World) (H : Nat) (v : Value) (fs : List (List Nat × Value)) (hF : Fnd w H v fs) (hA : Apart fs) (hl : fs.length ≤ 300) (hll : ∀ p ∈ fs, p.1.length ≤ 300) (hH : H ≤ w.heap.size) :
    Calls Tryz.prog 72 #[v, .func (.func 73) #[] #[]] w fun e w' => e = .returned (.tuple #[]) ∧ (∃ fs', fs'.Perm fs ∧ Fnd w' H v fs' ∧ fs'.Pairwise (fun p q => p.1.headD 0 < q.1.headD 0)) ∧ Gro (fun k => v.ownBlock = some k) w w' := by
  rcases hF.1.2 with ⟨rfl, hn⟩ | ⟨g, cap, cur, rfl, hB, hh, h1, h2, h3, h4⟩
  · have e0 : fs = [] := List.length_eq_zero_iff.1 hn
    subst e0
    refine (AnyF.slices_SortFunc_none (ρ := Tryz.sfI_ren) { Tryz.sfI with } none 0 _ w).mono fun e w' ⟨he, hw⟩ => ⟨he, ⟨[], List.Perm.refl _, ?_, by simp⟩, ?_⟩
    · rw [hw]; exact hF
    · rw [hw]; exact Gro.refl _ _
  · cases hfl : fs.length with
    | zero =>
      have e0 : fs = [] := List.length_eq_zero_iff.1 hfl
      subst e0
      refine (AnyF.slices_SortFunc_none (ρ := Tryz.sfI_ren) { Tryz.sfI with } _ cap _ w).mono fun e w' ⟨he, hw⟩ => ⟨he, ⟨[], List.Perm.refl _, ?_, by simp⟩, ?_⟩
      · rw [hw]; exact hF
      · rw [hw]; exact Gro.refl _ _
    | succ N =>
      obtain ⟨d, hd'⟩ : ∃ d : Array (Fin (N + 1)), d = (List.finRange (N + 1)).toArray := ⟨_, rfl⟩
      have hsz : d.size = N + 1 := by rw [hd']; simp
      have hat : ∀ j, j < N + 1 → (d[j]!).val = j := fun j hj => by
        rw [getElem!_pos d j (by omega)]
        subst hd'
        simp
      have hgl : g < w.heap.size := blt hh
      have hcell : ∀ j, j < N + 1 → w.cell? ⟨g, j, none⟩ = some (encF fs (N := N) d[j]!) := fun j hj => by
        have q1 : (fs.map Prod.snd)[j]? = some (encF fs (N := N) d[j]!) := by
          unfold encF
          rw [hat j hj]
          simp [List.getD, show j < fs.length by omega]
        have := hF.1.cells (g := g) rfl j _ q1
        rwa [Addr.add_lit, Nat.zero_add] at this
      have hHo : Sort.Holds (encF fs (N := N)) w g 0 d := fun j hj => by
        rw [Nat.zero_add]
        exact ⟨hcell j (by omega), Lib.frozen_of_heap hh j⟩
      have hone : OneCell (encF fs (N := N)) := fun i => by
        unfold encF
        have hm : fs.getD i.val ([], .slice none 0 0) ∈ fs := by simp [List.getD, show i.val < fs.length by have := i.isLt; omega]
        obtain ⟨a, c, e⟩ := (hF.2 _ hm).form
        rw [e]
        rfl
      have hcmp : CmpLays1 Tryz.prog 73 #[] (encF fs (N := N)) (cfF fs) g 0 d.size w := fun m os dk hdk x y => by
        have hgr := gro_srt (w := w) (g := g) (n := m) (os := os) (encF fs (N := N)) dk
        have hx := x.isLt
        have hy := y.isLt
        have hmx : fs.getD x.val ([], .slice none 0 0) ∈ fs := by simp [List.getD, show x.val < fs.length by omega]
        have hmy : fs.getD y.val ([], .slice none 0 0) ∈ fs := by simp [List.getD, show y.val < fs.length by omega]
        have part : ∀ p ∈ fs, ∃ gp op cp c, p.2 = .slice (some ⟨gp, op, none⟩) p.1.length cp ∧ (sortWorld (encF fs (N := N)) w g 0 m dk os).heap[gp]? = some (.cells c 3) ∧ ∀ j, j < p.1.length → c[op + j]? = some (.int .i64 ((natI p.1).getD j 0)) := fun p hp => by
          rcases hF.2 p hp with ⟨_, q⟩ | ⟨gp, op, cp, c, q1, q2, q3, q4, q5, q6, q7⟩
          · exact absurd (by simpa [natI] using q) (hA.1 p hp)
          · have e1 : (natI p.1).length = p.1.length := by simp [natI]
            rw [e1] at q1 q7
            exact ⟨gp, op, cp, c, q1, hgr.at q3 (fun e => tags q3 hh (by decide) e), q7⟩
        obtain ⟨gx, ox, cx, curx, ex, hxx, ax⟩ := part _ hmx
        obtain ⟨gy, oy, cy, cury, ey, hyy, ay⟩ := part _ hmy
        have fin : ∀ (z : Int) (w' : World), z = cfF fs x y → sortWorld (encF fs (N := N)) w g 0 m dk os = w' → Ending.returned (.int .i64 z) = .returned (.int .i64 (cfF fs x y)) ∧ ∃ q os', w' = Sort.grow ((sortWorld (encF fs (N := N)) w g 0 m dk os).drewN q) os' := fun z w' hz hw => by
          subst hz
          subst hw
          exact ⟨rfl, 0, #[], by rw [Sort.grow_empty]; rfl⟩
        by_cases hxy : x = y
        · subst hxy
          have q := compare_same gx ox cx (natI (fs.getD x.val ([], .slice none 0 0)).1) (sortWorld (encF fs (N := N)) w g 0 m dk os) (fun j hj => (Lib.cell_of_heap hxx _).trans (ax j (by simpa [natI] using hj))) (by have := hll _ hmx; rw [show (natI (fs.getD x.val ([], .slice none 0 0)).1).length = (fs.getD x.val ([], .slice none 0 0)).1.length by simp [natI]]; omega)
          rw [show (natI (fs.getD x.val ([], .slice none 0 0)).1).length = (fs.getD x.val ([], .slice none 0 0)).1.length by simp [natI], ← ex] at q
          exact q.mono fun e w' ⟨he, hw⟩ => by
            subst he
            exact fin 0 w' (by unfold cfF cmpI; rw [if_neg (by omega), if_neg (by omega)]) hw
        · have hne := hA.ne (i := x.val) (j := y.val) (by omega) (by omega) (fun e => hxy (Fin.ext e))
          have lx := List.length_pos_iff.2 (hA.1 _ hmx)
          have ly := List.length_pos_iff.2 (hA.1 _ hmy)
          obtain ⟨mx, hmx'⟩ : ∃ mx, (fs.getD x.val ([], .slice none 0 0)).1.length = mx + 1 := ⟨_, (Nat.succ_pred_eq_of_pos lx).symm⟩
          obtain ⟨my, hmy'⟩ : ∃ my, (fs.getD y.val ([], .slice none 0 0)).1.length = my + 1 := ⟨_, (Nat.succ_pred_eq_of_pos ly).symm⟩
          have hx0 : (sortWorld (encF fs (N := N)) w g 0 m dk os).cell? ⟨gx, ox, none⟩ = some (.int .i64 (hd fs x.val : Int)) := by
            rw [Lib.cell_of_heap hxx, ← Nat.add_zero ox, ax 0 lx]
            unfold hd
            generalize (fs.getD x.val ([], .slice none 0 0)).1 = l at lx
            cases l with
            | nil => simp at lx
            | cons a l => rfl
          have hy0 : (sortWorld (encF fs (N := N)) w g 0 m dk os).cell? ⟨gy, oy, none⟩ = some (.int .i64 (hd fs y.val : Int)) := by
            rw [Lib.cell_of_heap hyy, ← Nat.add_zero oy, ay 0 ly]
            unfold hd
            generalize (fs.getD y.val ([], .slice none 0 0)).1 = l at ly
            cases l with
            | nil => simp at ly
            | cons a l => rfl
          have q := compare_heads gx ox mx cx gy oy my cy (hd fs x.val) (hd fs y.val) (sortWorld (encF fs (N := N)) w g 0 m dk os) hx0 hy0 (by omega) (by have := hll _ hmx; omega) (by have := hll _ hmy; omega)
          rw [← hmx', ← hmy', ← ex, ← ey] at q
          exact q.mono fun e w' ⟨he, hw⟩ => by
            subst he
            exact fin _ w' rfl hw
      have key := Any.slices_SortFunc (ρ := Tryz.sfI_ren) Tryz.sfI (encF fs (N := N)) hone (cfF fs) (cfF_swo fs) 73 #[] g 0 cap d w (enters_of Tryz.func73 (by kernel_rfl) rfl) hcmp hHo hgl (by omega)
      rw [hsz] at key
      refine key.mono fun e w' ⟨he, d2, m, os, hp, hs, hw⟩ => ⟨he, ?_, ?_⟩
      · have hz2 : d2.size = N + 1 := by rw [hp.1, hsz]
        have hperm : d2.toList.Perm d.toList := by
          have ex : ∀ (q : Array (Fin (N + 1))), q.size = N + 1 → q.extract 0 (N + 1) = q := fun q hq => Array.ext (by simp; omega) (fun i h1 h2 => by simp)
          have := hp.2.2
          rw [ex d2 hz2, ex d hsz] at this
          exact this
        refine ⟨d2.toList.map (fun i => fs.getD i.val ([], .slice none 0 0)), ?_, ⟨?_, ?_⟩, ?_⟩
        · have h5 := hperm.map (fun i : Fin (N + 1) => fs.getD i.val ([], .slice none 0 0))
          have e5 : d.toList.map (fun i : Fin (N + 1) => fs.getD i.val ([], .slice none 0 0)) = fs := by
            rw [hd']
            apply List.ext_getElem
            · simp; omega
            · intro i h6 h7
              simp [List.getD, h7]
          rw [e5] at h5
          exact h5
        · have hcur : N + 1 ≤ cur.size := by omega
          have hlen : (d2.toList.map (fun i => fs.getD i.val ([], .slice none 0 0))).length = N + 1 := by simp [hz2]
          rw [hw]
          refine ⟨by simp, .inr ⟨g, cap, Sort.putCells (encF fs (N := N)) 0 d2 cur, by rw [hlen], hB, heap_srt _ _ hh, by rw [hlen]; omega, h2, by simp [Sort.putCells, h3], ?_⟩⟩
          have tk := take_srt (encF fs (N := N)) cur d2 (by omega)
          rw [hz2] at tk
          rw [hlen, Nat.mul_one, tk]
          simp [encF]
        · intro p hp2
          obtain ⟨i, _, rfl⟩ := List.mem_map.1 hp2
          have hm : fs.getD i.val ([], .slice none 0 0) ∈ fs := by simp [List.getD, show i.val < fs.length by have := i.isLt; omega]
          rw [hw]
          rcases hF.2 _ hm with q | ⟨gp, op, cp, c, q1, q2, q3, q4⟩
          · exact .inl q
          · exact .inr ⟨gp, op, cp, c, q1, q2, (gro_srt _ _).at q3 (fun e => tags q3 hh (by decide) e), q4⟩
        · rw [List.pairwise_map, List.pairwise_iff_getElem]
          intro i j hi hj hij
          have hi' : i < N + 1 := by rw [Array.length_toList] at hi; omega
          have hj' : j < N + 1 := by rw [Array.length_toList] at hj; omega
          have h6 := hs i j (Nat.zero_le _) hij (by omega)
          rw [cfF_lt] at h6
          have h7 : ¬ hd fs (d2[j]!).val < hd fs (d2[i]!).val := of_decide_eq_false h6
          rw [getElem!_pos d2 i (by omega), getElem!_pos d2 j (by omega)] at h7
          have hnd : d2.toList.Nodup := hperm.nodup_iff.2 (by rw [hd']; simpa using List.nodup_finRange (N + 1))
          have hne : (d2[i]'(by omega)) ≠ (d2[j]'(by omega)) := by
            have := (List.nodup_iff_pairwise_ne.1 hnd)
            have := (List.pairwise_iff_getElem.1 this) i j hi hj hij
            simpa using this
          have h8 := hA.ne (i := (d2[i]'(by omega)).val) (j := (d2[j]'(by omega)).val) (by have := (d2[i]'(by omega)).isLt; omega) (by have := (d2[j]'(by omega)).isLt; omega) (fun e => hne (Fin.ext e))
          show hd fs _ < hd fs _
          simp only [Array.getElem_toList]
          omega
      · rw [hw]
        have q := gro_srt (w := w) (g := g) (n := m) (os := os) (encF fs (N := N)) d2
        exact ⟨q.os, q.tape, q.output, q.size, fun k hk hn => q.block k hk (fun e => hn (by rw [e]; rfl))⟩
end Go.Proofs.YtdihbeffomibeaaGreatDoor
namespace Go.Proofs.YtdihbeffomibeaaGreatDoor
set_option linter.unusedVariables false
set_option linter.unusedSimpArgs false
open Go.RowKit

theorem run_store_func {P : Program} {w : World} {a : Addr} {m : Mode} (f : Fn) (ts vs : Array Value) : (store a (.func f ts vs) m).run P w = stored P w a (.func f ts vs) m := run_store P w a _ m rfl
attribute [local go_sem] run_store_func
theorem Tryz.infoMark : (Tryz.prog.info? 129).map (fun i => (i.zero, i.size, i.bytes)) = some (some (.agg #[.int .i64 0, .int .i64 0]), 2, 16) := by kernel_rfl
theorem made_marks (m : Nat) : madeCells #[Value.int .i64 0, Value.int .i64 0] m = Array.replicate m (Value.int .i64 0) := by
  apply Array.ext
  · simp [madeCells]
  · intro i h1 h2
    rcases (by omega : i % 2 = 0 ∨ i % 2 = 1) with h0 | h0 <;> simp [madeCells, h0]
/-- Where all is known, all are components. -/
theorem Tj.whole {E : Nat → Nat → Bool} {n come : Nat} {num low : Nat → Nat} {fnd : List (List Nat)} (h : Tj E n come num low [] [] fnd) (hk : ∀ v, v < n → num v ≠ 0) : ∀ v, v < n → ∃ c ∈ fnd, v ∈ c := fun v hv => by
  rcases h.cases v hv with h1 | h1 | h1
  · exact absurd h1.1 (hk v hv)
  · cases h1.1
  · exact (h.has v hv).1 h1.1
theorem Tj.apart {E : Nat → Nat → Bool} {n come : Nat} {num low : Nat → Nat} {way : List (Nat × List Nat)} {opn : List Nat} {fs : List (List Nat × Value)} (h : Tj E n come num low way opn (fs.map Prod.fst)) : Apart fs := by
  refine ⟨fun p hp => (h.comp p.1 (List.mem_map_of_mem hp)).ne, ?_⟩
  have h1 := List.pairwise_map.1 h.dis
  refine h1.imp_of_mem (fun {p q} hp hq hpq e => ?_)
  have q1 := (h.comp p.1 (List.mem_map_of_mem hp)).head
  have q2 := (h.comp q.1 (List.mem_map_of_mem hq)).head
  rw [← e] at q2
  exact hpq _ q1 q2
theorem IsComp.len {E : Nat → Nat → Bool} {n : Nat} {c : List Nat} (h : IsComp E n c) : c.length ≤ n := by
  obtain ⟨h1, u, hu, h2⟩ := h
  exact len_of_sub (h1.imp (fun {a b} hab e => by omega)) (fun v hv => ((h2 v).1 hv).1)

set_option maxHeartbeats 8000000 in
set_option maxRecDepth 100000 in
theorem comps_is (b n r : Nat) (bk ck : Nat → Nat) (L : Nat → Nat → Nat) (labels : Int) (w : World) (h : Graph w b n r bk ck L) (hT : Tab w) :
    Calls Tryz.prog 57 #[.pointer (some ⟨b, 0, none⟩), .int .i64 labels] w fun e w' => (∃ v fs, e = .returned v ∧ Fnd w' w.heap.size v fs ∧ IsComps (edge L labels) n (fs.map Prod.fst)) ∧ Below w.heap.size w w' := by
  have hn := h.bound
  obtain ⟨iM, hiM, hzM⟩ := Option.map_eq_some_iff.1 Tryz.infoMark
  simp only [Prod.mk.injEq] at hzM
  obtain ⟨zM0, zM1, zM2⟩ := hzM
  have hmk : ∀ W : World, (Instr.makeSlice 112 (.int .i64 (n : Nat)) (.int .i64 (n : Nat))).run Tryz.prog W = .ok (.slice (some ⟨W.heap.size, 0, none⟩) n n) (W.alloc (.cells (Array.replicate (n * 2) (.int .i64 0)) 129)) := fun W => by
    have := run_make (P := Tryz.prog) W 112 129 iM (.agg #[.int .i64 0, .int .i64 0]) Tryz.underlying112 hiM zM0 .i64 .i64 (n : Nat) (n : Nat) (by omega) (by omega) (by rw [zM2]; omega) (by omega)
    simpa [zM1, Value.cells, made_marks] using this
  clear hiM zM0 zM1 zM2
  have hni : (n : Int) ≤ 300 := by omega
  have hn0 : (0 : Int) ≤ n := by omega
  obtain ⟨Wb, hWb⟩ : ∃ Wb, (w.alloc (.cells #[.pointer (some ⟨b, 0, none⟩)] 48)).alloc (.cells #[.int .i64 labels] 3) = Wb := ⟨_, rfl⟩
  have hsz : Wb.heap.size = w.heap.size + 2 := by rw [← hWb]; simp
  have BW : Below w.heap.size w Wb := by rw [← hWb]; exact ((Below.refl _ w).alloc (Nat.le_refl _) _).alloc (by simp) _
  have EV : Env Wb b n r bk ck L labels w.heap.size (w.heap.size + 1) := by
    refine ⟨h.later BW, hT.later BW, ?_, ?_⟩
    · rw [← hWb]
      exact ((below_box _ _).cell (p := ⟨w.heap.size, 0, none⟩) (by simp)).trans (new_cells w _ _ 0)
    · rw [← hWb]
      have := new_cells (w.alloc (.cells #[.pointer (some ⟨b, 0, none⟩)] 48)) #[.int .i64 labels] 3 0
      rw [World.size_alloc] at this
      exact this
  have N0 := hid (nodes_is b n Wb EV.graph.c0 EV.graph.c1)
  have HEV := hid EV
  have HBW := hid BW
  have cg := EV.cg
  have HSZ := hid hsz
  clear EV BW h hT hsz
  go_enter Tryz.func57, Tryz.ntmps57
  go_wp2_with fail
  go_at_call 40
  refine N0.out.mono ?_
  rintro e w' ⟨rfl, rfl⟩
  clear hWb
  have hY : ((Wb.alloc (.cells (Array.replicate (n * 2) (.int .i64 0)) 129)).alloc (.cells #[Value.nilFunc, .slice none 0 0, .int .i64 0, .slice none 0 0, .slice none 0 0, .slice none 0 0] 115)).heap[Wb.heap.size + 1]? = some (.cells #[Value.nilFunc, .slice none 0 0, .int .i64 0, .slice none 0 0, .slice none 0 0, .slice none 0 0] 115) := by
    have := heap_alloc_new (Wb.alloc (.cells (Array.replicate (n * 2) (.int .i64 0)) 129)) (.cells #[Value.nilFunc, .slice none 0 0, .int .i64 0, .slice none 0 0, .slice none 0 0, .slice none 0 0] 115)
    rwa [World.size_alloc] at this
  have y0 := Lib.cell_of_heap hY 0
  have z0 := Lib.frozen_of_heap hY 0
  have y1 := Lib.cell_of_heap hY 1
  have z1 := Lib.frozen_of_heap hY 1
  have y2 := Lib.cell_of_heap hY 2
  have z2 := Lib.frozen_of_heap hY 2
  have y3 := Lib.cell_of_heap hY 3
  have z3 := Lib.frozen_of_heap hY 3
  have y4 := Lib.cell_of_heap hY 4
  have z4 := Lib.frozen_of_heap hY 4
  have y5 := Lib.cell_of_heap hY 5
  have z5 := Lib.frozen_of_heap hY 5
  have HY := hid hY
  clear hY
  go_wp2_with fail
  clear y0 y1 y2 y3 y4 y5 z0 z1 z2 z3 z4 z5 HY hmk N0 cg
  have S0 : Hid (Sr ((Wb.alloc (.cells (Array.replicate (n * 2) (.int .i64 0)) 129)).alloc (.cells #[.func (.func 69) #[] #[.pointer (some ⟨w.heap.size, 0, none⟩), .pointer (some ⟨w.heap.size + 1, 0, none⟩)], .slice (some ⟨Wb.heap.size, 0, none⟩) n n, .int .i64 0, .slice none 0 0, .slice none 0 0, .slice none 0 0] 115)) Wb.heap.size (Wb.heap.size + 1) Wb.heap.size (outF w.heap.size (w.heap.size + 1)) (.slice none 0 0) (.slice none 0 0) (.slice none 0 0) n 0 (fun _ => 0) (fun _ => 0) [] [] []) := by
    refine ⟨?_, ⟨_, (Below.heap_alloc _ _ _ (by simp)).trans (heap_alloc_new Wb _), by simp, fun j hj => ⟨by rw [Array.getElem?_replicate, if_pos (by omega)]; rfl, by rw [Array.getElem?_replicate, if_pos (by omega)]; rfl⟩⟩, World.ownsRow_nil _ _ _ _, fun p hp => (by cases hp), World.ownsRow_nil _ _ _ _, World.ownsRow_nil _ _ _ _, fun p hp => (by cases hp), by omega, Nat.le_refl _⟩
    have := heap_alloc_new (Wb.alloc (.cells (Array.replicate (n * 2) (.int .i64 0)) 129)) (.cells #[.func (.func 69) #[] #[.pointer (some ⟨w.heap.size, 0, none⟩), .pointer (some ⟨w.heap.size + 1, 0, none⟩)], .slice (some ⟨Wb.heap.size, 0, none⟩) n n, .int .i64 0, .slice none 0 0, .slice none 0 0, .slice none 0 0] 115)
    rw [World.size_alloc] at this
    exact this
  have B0 : Hid (Below Wb.heap.size Wb ((Wb.alloc (.cells (Array.replicate (n * 2) (.int .i64 0)) 129)).alloc (.cells #[.func (.func 69) #[] #[.pointer (some ⟨w.heap.size, 0, none⟩), .pointer (some ⟨w.heap.size + 1, 0, none⟩)], .slice (some ⟨Wb.heap.size, 0, none⟩) n n, .int .i64 0, .slice none 0 0, .slice none 0 0, .slice none 0 0] 115))) := ((Below.refl _ Wb).alloc (Nat.le_refl _) _).alloc (by simp) _
  have T0 := hid (Tj.start (edge L labels) n (by unfold KK; omega))
  generalize (Wb.alloc (.cells (Array.replicate (n * 2) (.int .i64 0)) 129)).alloc (.cells #[.func (.func 69) #[] #[.pointer (some ⟨w.heap.size, 0, none⟩), .pointer (some ⟨w.heap.size + 1, 0, none⟩)], .slice (some ⟨Wb.heap.size, 0, none⟩) n n, .int .i64 0, .slice none 0 0, .slice none 0 0, .slice none 0 0] 115) = W0 at *
  go_loopg [6, 15] n (fun g _ i wr => ∃ (k : Nat) (wv ov fv : Value) (come : Nat) (num low : Nat → Nat) (fs : List (List Nat × Value)), k ≤ n ∧ n - k ≤ g ∧ i = .int .i64 k ∧ Aside (Sr wr Wb.heap.size (Wb.heap.size + 1) Wb.heap.size (outF w.heap.size (w.heap.size + 1)) wv ov fv n come num low [] [] fs) ∧ Aside (Tj (edge L labels) n come num low [] [] (fs.map Prod.fst)) ∧ Aside (∀ x, x < k → num x ≠ 0) ∧ Aside (Below Wb.heap.size Wb wr))
  case atStart => exact ⟨0, _, _, _, _, _, _, [], Nat.zero_le _, by omega, rfl, S0.out, T0.out, fun x hx => by omega, B0.out⟩
  case round =>
    clear S0 T0 B0
    obtain ⟨k, wv, ov, fv, come, num, low, fs, hk, hg, rfl, SX, TX, NX, BX⟩ := hrel
    by_cases hlt : k < n
    · have hlti : (k : Int) < n := by omega
      by_cases hz : num k = 0
      · have KN := hid (known_no SX.out k hlt hz (TX.out.knownGo hlt hz))
        have WK := hid (walk_is HEV.out BX.out SX.out TX.out k hlt hz)
        clear hz SX TX BX
        go_wp2_with fail
        go_at_call 70
        refine KN.out.mono ?_
        rintro e w' ⟨rfl, rfl⟩
        go_wp2_with fail
        go_at_call 71
        refine WK.out.mono ?_
        rintro e w5 ⟨rfl, wv5, ov5, fv5, come5, num5, low5, fs5, k5⟩
        have K5 := hid k5
        have N5 : Hid (∀ x, x < k + 1 → num5 x ≠ 0) := fun x hx => by
          by_cases e : x = k
          · rw [e]; exact k5.go.1
          · exact k5.go.2 x (NX.out x (by omega))
        clear k5 WK KN NX
        go_wp2_with fail
        go_roundg (n - (k + 1))
        · exact ⟨k + 1, _, _, _, _, _, _, _, by omega, by omega, by go_num, K5.out.sr, K5.out.tj, N5.out, K5.out.be⟩
        · omega
      · have KN := hid (known_yes SX.out k hlt hz)
        have N5 : Hid (∀ x, x < k + 1 → num x ≠ 0) := fun x hx => by
          by_cases e : x = k
          · rw [e]; exact hz
          · exact NX.out x (by omega)
        clear hz NX
        go_wp2_with fail
        go_at_call 70
        refine KN.out.mono ?_
        rintro e w' ⟨rfl, rfl⟩
        go_wp2_with fail
        go_roundg (n - (k + 1))
        · exact ⟨k + 1, _, _, _, _, _, _, _, by omega, by omega, by go_num, SX.out, TX.out, N5.out, BX.out⟩
        · omega
    · have hlti : ¬ (k : Int) < n := by omega
      have AL : Hid (∀ x, x < n → num x ≠ 0) := fun x hx => NX.out x (by omega)
      have FN : Hid (Fnd wr Wb.heap.size fv fs) := ⟨SX.out.fndR, fun p hp => part_mono (SX.out.cmps p hp) (fun g _ hP => hP.1)⟩
      have FSD := hid (found_sorted wr Wb.heap.size fv fs FN.out TX.out.apart (by have := TX.out.fndLen; rw [List.length_map] at this; omega) (fun p hp => by have := (TX.out.comp p.1 (List.mem_map_of_mem hp)).len; omega) BX.out.size)
      obtain ⟨c0, c1, c2, c3, c4, c5⟩ := SX.out.cells
      clear c0 c1 c2 c3 c4 NX FN
      go_wp2_with fail
      go_at_call 72
      refine FSD.out.mono ?_
      rintro e w6 ⟨rfl, ⟨fs6, hp6, hf6, hs6⟩, g6⟩
      have c6 : w6.cell? ⟨Wb.heap.size + 1, 5, none⟩ = some fv := Lib.cell_of_heap (g6.at SX.out.box SX.out.apart.2.2.2.2.2.1) 5
      have B6 : Hid (Below Wb.heap.size Wb w6) := BX.out.trans (g6.below Wb.heap.size (fun k hk => (own_tag SX.out.fndR hk).1) BX.out.size)
      have IC : Hid (IsComps (edge L labels) n (fs6.map Prod.fst)) := by
        have hpm := hp6.map Prod.fst
        refine ⟨fun c hc => TX.out.comp c (hpm.mem_iff.1 hc), fun v hv => ?_, List.pairwise_map.2 hs6⟩
        obtain ⟨c, hc, hvc⟩ := TX.out.whole AL.out v hv
        exact ⟨c, hpm.mem_iff.2 hc, hvc⟩
      have F6 := hid hf6
      obtain ⟨fa, fc, hfv, _⟩ := own_form hf6.1
      subst hfv
      clear c5 hf6 hp6 hs6 g6 FSD SX TX BX AL
      go_wp2_with fail
      go_ret
      have HSB := HSZ.out
      refine ⟨⟨_, fs6, rfl, ?_, IC.out⟩, HBW.out.trans (B6.out.mono HBW.out.size)⟩
      refine ⟨⟨F6.out.1.1, ?_⟩, fun p hp => part_mono (F6.out.2 p hp) (fun g _ hP => by omega)⟩
      rcases F6.out.1.2 with h1 | ⟨g, cap, cur, q1, q2, q3⟩
      · exact .inl h1
      · exact .inr ⟨g, cap, cur, q1, by omega, q3⟩
end Go.Proofs.YtdihbeffomibeaaGreatDoor
namespace Go.Proofs.YtdihbeffomibeaaGreatDoor
set_option linter.unusedVariables false
set_option linter.unusedSimpArgs false
open Go.RowKit

theorem Fnd.at {w : World} {H : Nat} {v : Value} {fs : List (List Nat × Value)} (h : Fnd w H v fs) : ∃ a c, v = .slice a fs.length c ∧ ∀ j, j < fs.length → ∃ g, a = some ⟨g, 0, none⟩ ∧ H ≤ g ∧ w.cell? ⟨g, j, none⟩ = some (fs.getD j ([], .slice none 0 0)).2 := by
  rcases h.1.2 with ⟨hv, hn⟩ | ⟨g, cap, cur, hv, hB, _⟩
  · exact ⟨none, 0, by rw [hv, hn], fun j hj => by omega⟩
  · refine ⟨_, cap, hv, fun j hj => ⟨g, rfl, hB, ?_⟩⟩
    have q1 : (fs.map Prod.snd)[j]? = some (fs.getD j ([], .slice none 0 0)).2 := by simp [List.getD, hj]
    have := h.1.cells (g := g) (by rw [hv]; rfl) j _ q1
    rwa [Addr.add_lit, Nat.zero_add] at this
theorem Fnd.each {w : World} {H : Nat} {v : Value} {fs : List (List Nat × Value)} (h : Fnd w H v fs) (j : Nat) (hj : j < fs.length) : ∃ a c, (fs.getD j ([], .slice none 0 0)).2 = .slice a (fs.getD j ([], .slice none 0 0)).1.length c := by
  have hm : fs.getD j ([], .slice none 0 0) ∈ fs := by simp [List.getD, hj]
  obtain ⟨a, c, e⟩ := (h.2 _ hm).form
  exact ⟨a, c, by rw [e]; simp [natI]⟩
theorem Fnd.later {w w' : World} {H : Nat} {v : Value} {fs : List (List Nat × Value)} (h : Fnd w H v fs) (hb : Below w.heap.size w w') : Fnd w' H v fs :=
  ⟨own_gro h.1 (Gro.of_below (P := fun _ => False) hb) (fun _ _ x => x), fun p hp => (h.2 p hp).gro (Gro.of_below (P := fun _ => False) hb) (fun _ _ x => x)⟩
theorem great1_is (a : Option Addr) (m c : Nat) (w : World) (hm : m ≤ 1000) : Calls Tryz.prog 58 #[.slice a m c] w fun e w' => e = .returned (.bool (decide (1 < m))) ∧ w = w' := by
  have hmi : (m : Int) ≤ 1000 := by omega
  by_cases h : 1 < m
  · rw [decide_eq_true h]
    have hi : (m : Int) > 1 := by omega
    go_enter Tryz.func58, Tryz.ntmps58
    go_wp2
    go_ret
    exact ⟨rfl, rfl⟩
  · rw [decide_eq_false h]
    have hi : ¬ (m : Int) > 1 := by omega
    go_enter Tryz.func58, Tryz.ntmps58
    go_wp2
    go_ret
    exact ⟨rfl, rfl⟩
theorem great_take (cs : List (List Nat)) (k : Nat) (hk : k < cs.length) : great (cs.take (k + 1)) = (great (cs.take k) || decide (1 < (cs.getD k []).length)) := by
  unfold great
  rw [List.take_succ_eq_append_getElem hk, List.any_append]
  simp [List.getD, hk]
set_option maxHeartbeats 4000000 in
set_option maxRecDepth 100000 in
theorem indexF_is (w : World) (H : Nat) (v : Value) (fs : List (List Nat × Value)) (h : Fnd w H v fs) (hl : fs.length ≤ 300) (hll : ∀ p ∈ fs, p.1.length ≤ 300) :
    Calls Tryz.prog 68 #[v, .func (.func 58) #[] #[]] w fun e w' => (∃ r : Int, e = .returned (.int .i64 r) ∧ (0 ≤ r ↔ great (fs.map Prod.fst) = true)) ∧ w = w' := by
  obtain ⟨a, c, rfl, hat⟩ := h.at
  have HA := hid hat
  have HF := hid h
  have HLL := hid hll
  have hli : (fs.length : Int) ≤ 300 := by omega
  clear hat h hll
  go_enter Tryz.func68, Tryz.ntmps68
  go_wp2_with fail
  go_loopg [5, 8] fs.length (fun gg _ i wr => ∃ k : Nat, k ≤ fs.length ∧ fs.length - k ≤ gg ∧ i = .int .i64 k ∧ Aside (great ((fs.map Prod.fst).take k) = false) ∧ w = wr)
  case atStart => exact ⟨0, Nat.zero_le _, by omega, rfl, by show great _ = false; rw [List.take_zero]; rfl, rfl⟩
  case round =>
    obtain ⟨k, hk, hg, rfl, NX, rfl⟩ := hrel
    by_cases hlt : k < fs.length
    · have hlti : (k : Int) < fs.length := by omega
      have hk0 : (0 : Int) ≤ k := by omega
      obtain ⟨g, rfl, _, ck⟩ := HA.out k hlt
      obtain ⟨ea, ec, ee⟩ := HF.out.each k hlt
      have hm : fs.getD k ([], .slice none 0 0) ∈ fs := by simp [List.getD, hlt]
      have hlk := HLL.out _ hm
      have GT := great_take (fs.map Prod.fst) k (by rw [List.length_map]; exact hlt)
      have e9 : ((fs.map Prod.fst).getD k []) = (fs.getD k ([], .slice none 0 0)).1 := by simp [List.getD, hlt]
      rw [e9] at GT
      rw [ee] at ck
      generalize (fs.getD k ([], .slice none 0 0)).1.length = m at *
      have G1 := great1_is ea m ec w (by omega)
      rw [NX.out, Bool.false_or] at GT
      by_cases hb : 1 < m
      · rw [decide_eq_true hb] at G1 GT
        have GW : Hid (great (fs.map Prod.fst) = true) := by
          unfold great at GT ⊢
          rw [List.any_eq_true] at GT ⊢
          obtain ⟨x, hx, hx2⟩ := GT
          exact ⟨x, List.mem_of_mem_take hx, hx2⟩
        clear GT NX e9 ee hm
        go_wp2_with (go_at_call 58; refine G1.mono ?_; rintro e w' ⟨rfl, rfl⟩)
        go_ret
        exact ⟨⟨_, rfl, ⟨fun _ => GW.out, fun _ => by omega⟩⟩, rfl⟩
      · rw [decide_eq_false hb] at G1 GT
        have GN := hid GT
        clear GT NX e9 ee hm
        go_wp2_with (go_at_call 58; refine G1.mono ?_; rintro e w' ⟨rfl, rfl⟩)
        go_roundg (fs.length - (k + 1))
        · exact ⟨k + 1, by omega, by omega, by go_num, GN.out, rfl⟩
        · omega
    · have hlti : ¬ (k : Int) < fs.length := by omega
      have GN : Hid (great (fs.map Prod.fst) = false) := by
        have := NX.out
        rwa [List.take_of_length_le (by rw [List.length_map]; omega)] at this
      go_wp2_with fail
      go_ret
      exact ⟨⟨_, rfl, ⟨fun h => by omega, fun h => by rw [GN.out] at h; cases h⟩⟩, rfl⟩
set_option maxHeartbeats 4000000 in
theorem containsF_is (w : World) (H : Nat) (v : Value) (fs : List (List Nat × Value)) (h : Fnd w H v fs) (hl : fs.length ≤ 300) (hll : ∀ p ∈ fs, p.1.length ≤ 300) :
    Calls Tryz.prog 56 #[v, .func (.func 58) #[] #[]] w fun e w' => e = .returned (.bool (great (fs.map Prod.fst))) ∧ w = w' := by
  have IX := hid (indexF_is w H v fs h hl hll)
  obtain ⟨a, c, rfl, _⟩ := h.at
  clear h
  go_enter Tryz.func56, Tryz.ntmps56
  go_wp2_with fail
  go_at_call 68
  refine IX.out.mono ?_
  rintro e w' ⟨⟨r, rfl, hr⟩, rfl⟩
  have hd : decide (0 ≤ r) = great (fs.map Prod.fst) := by
    rw [Bool.eq_iff_iff, decide_eq_true_eq]
    exact hr
  have HD := hid hd
  clear hr IX hd
  go_wp2_with fail
  go_ret
  exact ⟨by rw [← HD.out]; rfl, rfl⟩
theorem IsComps.len {E : Nat → Nat → Bool} {n : Nat} {cs : List (List Nat)} (h : IsComps E n cs) : cs.length ≤ n ∧ ∀ c ∈ cs, c.length ≤ n := by
  refine ⟨?_, fun c hc => (h.1 c hc).len⟩
  have h1 : (cs.map fun c => c.headD 0).Nodup := by
    rw [List.nodup_iff_pairwise_ne, List.pairwise_map]
    exact h.2.2.imp (fun {c d} hcd e => by omega)
  have := len_of_sub (n := n) h1 (fun v hv => by
    obtain ⟨c, hc, rfl⟩ := List.mem_map.1 hv
    obtain ⟨_, u, _, h2⟩ := h.1 c hc
    exact ((h2 _).1 (h.1 c hc).head).1)
  simpa using this
set_option maxHeartbeats 4000000 in
theorem cyclic_is (b n r : Nat) (bk ck : Nat → Nat) (L : Nat → Nat → Nat) (labels : Int) (w : World) (h : Graph w b n r bk ck L) (hT : Tab w) :
    Calls Tryz.prog 38 #[.pointer (some ⟨b, 0, none⟩), .int .i64 labels] w fun e w' => (∃ cs, e = .returned (.bool (great cs)) ∧ IsComps (edge L labels) n cs) ∧ Below w.heap.size w w' := by
  have CO := hid (comps_is b n r bk ck L labels w h hT)
  have hn := h.bound
  clear h hT
  go_enter Tryz.func38, Tryz.ntmps38
  go_wp2_with fail
  go_at_call 57
  refine CO.out.mono ?_
  rintro e w1 ⟨⟨v, fs, rfl, hf, hc⟩, b1⟩
  have HC := hid hc
  have B1 := hid b1
  have hlen := hc.len
  rw [List.length_map] at hlen
  have CF := hid (containsF_is w1 w.heap.size v fs hf (by omega) (fun p hp => by have := hlen.2 p.1 (List.mem_map_of_mem hp); omega))
  obtain ⟨a, c, rfl, _⟩ := hf.at
  clear hf hc b1 hlen CO
  go_wp2_with fail
  go_at_call 56
  refine CF.out.mono ?_
  rintro e w2 ⟨rfl, rfl⟩
  generalize hgr : great (fs.map Prod.fst) = gr
  have HG := hid hgr
  clear hgr CF
  go_wp2_with fail
  go_ret
  exact ⟨⟨fs.map Prod.fst, by rw [HG.out]; rfl, HC.out⟩, B1.out⟩
end Go.Proofs.YtdihbeffomibeaaGreatDoor
