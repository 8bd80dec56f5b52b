/-
  twice: a value that stood in the read before. A map that counts ints.
-/
import Derived.Test.YtnfbcmnlloipiaaLg7
namespace Go.Proofs.Ytnfbcmnlloipiaa
set_option linter.unusedVariables false
set_option linter.unusedSimpArgs false
open Go.RowKit Go.Lib Go.Maps

/-- A map from ints to ints. -/
def Ct (w : World) (sb n : Nat) (f : Int → Option Int) : Prop := ∃ F, MapV w Try.prog 3 sb n F ∧ ∀ x, F (.int .i64 x) = (f x).map (Value.int .i64)
theorem Ct.made (w : World) : Ct (w.alloc (.map #[] 0)) w.heap.size 0 (fun _ => none) := ⟨_, MapV.made w Try.prog 3, fun _ => rfl⟩
theorem Ct.lt {w : World} {sb n : Nat} {f : Int → Option Int} (h : Ct w sb n f) : sb < w.heap.size := by
  obtain ⟨F, h1, _⟩ := h
  exact h1.lt
theorem Ct.same {w w' : World} {sb n : Nat} {f : Int → Option Int} (h : Ct w sb n f) (hb : w'.heap[sb]? = w.heap[sb]?) : Ct w' sb n f := by
  obtain ⟨F, h1, h2⟩ := h
  exact ⟨F, h1.same hb, h2⟩
theorem Ct.look {w : World} {sb n : Nat} {f : Int → Option Int} (h : Ct w sb n f) (x : Int) (hx : (Lit.int .i64 x).wf = true) : (Instr.lookup 137 (.map (some sb)) (.int .i64 x) false).run Try.prog w = .ok (.int .i64 ((f x).getD 0)) w := by
  obtain ⟨F, h1, h2⟩ := h
  rw [h1.look keys3 Try.underlying137 (zeroI w) (key3 x hx), h2 x]
  cases f x <;> rfl
theorem Ct.put {w : World} {sb n : Nat} {f : Int → Option Int} (h : Ct w sb n f) (hn : n < maxLen) (x : Int) (hx : (Lit.int .i64 x).wf = true) (y : Int) : ∃ w', (Instr.mapUpdate 137 (.map (some sb)) (.int .i64 x) (.int .i64 y)).run Try.prog w = .ok () w' ∧ Ct w' sb (n + 1) (fun z => if z = x then some y else f z) ∧ w.grownBy w' (some sb) := by
  obtain ⟨F, h1, h2⟩ := h
  obtain ⟨w', g, r1, hp, r2, r3⟩ := h1.put keys3 Try.underlying137 hn (.int .i64 y) (key3 x hx)
  refine ⟨w', r1, ⟨g, r2, fun z => ?_⟩, r3⟩
  by_cases e : z = x
  · subst e
    show g _ = Option.map _ (if z = z then some y else f z)
    rw [hp.1, if_pos rfl]
    rfl
  · show g _ = Option.map _ (if z = x then some y else f z)
    rw [hp.2 (.int .i64 z) (fun c => e (by injection c)), h2 z, if_neg e]
/-- How often x stands among the first k. -/
def cntK (xs : List Int) (k : Nat) (x : Int) : Nat := (xs.take k).count x
theorem cntK_next (xs : List Int) (k : Nat) (hk : k < xs.length) (x : Int) : cntK xs (k + 1) x = cntK xs k x + (if x = xs.getD k default then 1 else 0) := by
  unfold cntK
  rw [List.take_add_one, List.count_append]
  have : xs.getD k default = xs[k] := by simp [List.getD, List.getElem?_eq_getElem hk]
  rw [this, List.getElem?_eq_getElem hk]
  by_cases e : x = xs[k]
  · simp [e]
  · simp [e, List.count_singleton]
    exact fun c => absurd c.symm e
theorem cntK_le (xs : List Int) (k : Nat) (x : Int) : cntK xs k x ≤ k := Nat.le_trans List.count_le_length (by simp; omega)
/-- Did the value at k stand before? -/
def twB (xs : List Int) (k : Nat) : Bool := decide (0 < cntK xs k (xs.getD k default))
/-- What twice tells. -/
def FoundK (p : Nat → Bool) (xs : List Int) (kd : Int) (e : Ending) : Prop := ((∀ j, j < xs.length → p j = false) ∧ e = .returned (.tuple #[an0, .bool false])) ∨ ∃ k, k < xs.length ∧ p k = true ∧ (∀ j, j < k → p j = false) ∧ e = .returned (.tuple #[anV kd 0 (xs.getD k default), .bool true])
set_option maxHeartbeats 4000000 in
set_option maxRecDepth 100000 in
theorem twice_is (kb ri rj : Nat) {S : Nat → Prop} (la : Option Addr) (lc : Nat) (xs : List Int) (w : World) (h : IntsIn S w (.slice la xs.length lc) xs) (hw : ∀ x ∈ xs, (Lit.int .i64 x).wf = true) : Calls Try.prog 70 #[.pointer (some ⟨kb, 0, none⟩), .agg #[.int .i64 ri, .int .i64 rj, .slice la xs.length lc]] w fun e w' => FoundK (twB xs) xs 3 e ∧ Below w.heap.size w w' := by
  obtain ⟨W, hW⟩ : ∃ W, ((w.alloc (.cells #[.int .i64 ri, .int .i64 rj, .slice la xs.length lc] 77)).alloc (.cells #[.int .i64 0, .int .i64 0, .int .i64 0, .int .i64 0, .string ⟨#[]⟩, .int .i64 0, .slice none 0 0, .bool false, .int .i64 0] 85)).alloc (.map #[] 0) = W := ⟨_, rfl⟩
  have BW : Hid (Below w.heap.size w W) := by rw [← hW]; exact ((below_box w _).alloc (by rw [alloc_size]; omega) _).alloc (by rw [alloc_size, alloc_size]; omega) _
  have e1 : (w.alloc (.cells #[.int .i64 ri, .int .i64 rj, .slice la xs.length lc] 77)).heap.size = w.heap.size + 1 := by rw [alloc_size]
  have e2 : ((w.alloc (.cells #[.int .i64 ri, .int .i64 rj, .slice la xs.length lc] 77)).alloc (.cells #[.int .i64 0, .int .i64 0, .int .i64 0, .int .i64 0, .string ⟨#[]⟩, .int .i64 0, .slice none 0 0, .bool false, .int .i64 0] 85)).heap.size = w.heap.size + 1 + 1 := by rw [alloc_size, e1]
  have eW : W.heap.size = w.heap.size + 3 := by rw [← hW, alloc_size, e2]
  have x2 : W.cell? ⟨w.heap.size, 2, none⟩ = some (.slice la xs.length lc) := by rw [← hW]; exact Lib.cell?_alloc_some _ (Lib.cell?_alloc_some _ (new_cells w _ 77 2))
  have ZC : Hid (∀ i u, (#[.int .i64 0, .int .i64 0, .int .i64 0, .int .i64 0, .string ⟨#[]⟩, .int .i64 0, .slice none 0 0, .bool false, .int .i64 0] : Array Value)[i]? = some u → W.cell? ⟨w.heap.size + 1, i, none⟩ = some u) := fun i u hu => by
    rw [← hW, ← e1]
    exact Lib.cell?_alloc_some _ ((new_cells _ _ 85 i).trans hu)
  have ZF : Hid (∀ i, W.frozen? ⟨w.heap.size + 1, i, none⟩ = false) := fun i => by
    have q : W.heap[w.heap.size + 1]? = some (.cells #[.int .i64 0, .int .i64 0, .int .i64 0, .int .i64 0, .string ⟨#[]⟩, .int .i64 0, .slice none 0 0, .bool false, .int .i64 0] 85) := by
      rw [← hW, alloc_at, if_neg (by rw [e2]; omega), ← e1]
      exact heap_alloc_new _ _
    exact Lib.frozen_of_heap q i
  have C0 : Hid (Ct W (w.heap.size + 1 + 1) 0 (fun _ => none)) := by
    have q := Ct.made ((w.alloc (.cells #[.int .i64 ri, .int .i64 rj, .slice la xs.length lc] 77)).alloc (.cells #[.int .i64 0, .int .i64 0, .int .i64 0, .int .i64 0, .string ⟨#[]⟩, .int .i64 0, .slice none 0 0, .bool false, .int .i64 0] 85))
    rw [e2, hW] at q
    exact q
  obtain ⟨ao, c, hv, ⟨hbytes, _⟩, hcells⟩ := id h
  cases hv
  have HW := hid hw
  have HC := hid hcells
  have hli : (xs.length : Int) ≤ 17592186044416 := by omega
  clear h hw hcells
  have hmm := @run_makeMap Try.prog
  go_enter Try.func70, Try.ntmps70
  go_wp2_with fail
  clear hmm
  try simp only [hW]
  clear hW e1 e2
  go_loopg [8, 13] xs.length (fun g _ i wr => ∃ k : Nat, k ≤ xs.length ∧ xs.length - k ≤ g ∧ i = .int .i64 k ∧ Aside (Below w.heap.size w wr) ∧ Aside (∀ b, b < W.heap.size → b ≠ w.heap.size + 1 + 1 → wr.heap[b]? = W.heap[b]?) ∧ Aside (∃ f, Ct wr (w.heap.size + 1 + 1) k f ∧ ∀ x, (f x).getD 0 = (cntK xs k x : Int)) ∧ Aside (∀ j, j < k → twB xs j = false))
  case atStart => exact ⟨0, by omega, by omega, rfl, BW.out, (show Aside _ from fun _ _ _ => rfl), ⟨_, C0.out, fun x => by simp [cntK]⟩, (show Aside _ from fun j hj => by omega)⟩
  case round =>
    obtain ⟨k, hk, hg, rfl, BR, KP, CT, AL⟩ := hrel
    have BL : ∀ i, wr.cell? ⟨w.heap.size + 1, i, none⟩ = W.cell? ⟨w.heap.size + 1, i, none⟩ := fun i => World.cell?_of_block (a := ⟨w.heap.size + 1, i, none⟩) (KP.out _ (by show w.heap.size + 1 < W.heap.size; omega) (by show w.heap.size + 1 ≠ _; omega))
    have y0 : wr.cell? ⟨w.heap.size + 1, 0, none⟩ = some (.int .i64 0) := (BL 0).trans (ZC.out 0 _ rfl)
    have y1 : wr.cell? ⟨w.heap.size + 1, 1, none⟩ = some (.int .i64 0) := (BL 1).trans (ZC.out 1 _ rfl)
    have y2 : wr.cell? ⟨w.heap.size + 1, 2, none⟩ = some (.int .i64 0) := (BL 2).trans (ZC.out 2 _ rfl)
    have y3 : wr.cell? ⟨w.heap.size + 1, 3, none⟩ = some (.int .i64 0) := (BL 3).trans (ZC.out 3 _ rfl)
    have y4 : wr.cell? ⟨w.heap.size + 1, 4, none⟩ = some (.string ⟨#[]⟩) := (BL 4).trans (ZC.out 4 _ rfl)
    have y5 : wr.cell? ⟨w.heap.size + 1, 5, none⟩ = some (.int .i64 0) := (BL 5).trans (ZC.out 5 _ rfl)
    have y6 : wr.cell? ⟨w.heap.size + 1, 6, none⟩ = some (.slice none 0 0) := (BL 6).trans (ZC.out 6 _ rfl)
    have y7 : wr.cell? ⟨w.heap.size + 1, 7, none⟩ = some (.bool false) := (BL 7).trans (ZC.out 7 _ rfl)
    have y8 : wr.cell? ⟨w.heap.size + 1, 8, none⟩ = some (.int .i64 0) := (BL 8).trans (ZC.out 8 _ rfl)
    have fz : ∀ i, wr.frozen? ⟨w.heap.size + 1, i, none⟩ = false := fun i => (Tx.frozen_of_block (KP.out _ (by omega) (by omega)) i).trans (ZF.out i)
    clear BL
    by_cases hlt : k < xs.length
    · have hlti : (k : Int) < xs.length := by omega
      obtain ⟨b, off, rfl, _, hc⟩ := HC.out (by omega)
      have v0 := hc k hlt
      have v1 := (BR.out.cell (p := ⟨b, off + k, none⟩) (World.block_lt_of_cell? _ _ v0)).trans v0
      have hx : (Lit.int .i64 (xs.getD k default)).wf = true := HW.out _ (by simp [List.getD, List.getElem?_eq_getElem hlt])
      obtain ⟨f, ct, hf⟩ := CT.out
      clear v0 hc
      have HN : Hid (∀ x, cntK xs (k + 1) x = cntK xs k x + (if x = xs.getD k default then 1 else 0)) := cntK_next xs k hlt
      have HT : Hid (twB xs k = decide (0 < cntK xs k (xs.getD k default))) := rfl
      have LK := ct.look _ hx
      have hle := cntK_le xs k (xs.getD k default)
      rw [hf] at LK
      obtain ⟨X, hX⟩ : ∃ X, xs.getD k default = X := ⟨_, rfl⟩
      rw [hX] at LK v1 hx hle HN HT
      have HX := hid hX
      obtain ⟨C, hC⟩ : ∃ C, cntK xs k X = C := ⟨_, rfl⟩
      rw [hC] at LK HT hle
      have HC2 := hid hC
      have HF := hid hf
      clear hX hC CT hf
      by_cases h0 : 0 < C
      · have h0i : (0 : Int) < (C : Int) := by omega
        clear ct HN HF
        go_wp2_with fail
        have hge : w.heap.size ≤ w.heap.size + 1 := by omega
        refine bodyPost_ret (v := .tuple #[anV 3 0 X, .bool true]) (by simp [results, Try.results70, go_sem, y0, y1, y2, y3, y4, y5, y6, y7, y8]) rfl ⟨.inr ⟨k, hlt, by rw [HT.out]; simp [h0], AL.out, by rw [HX.out]⟩, ?_⟩
        exact (((((((((BR.out.setCell hge _).setCell hge _).setCell hge _).setCell hge _).setCell hge _).setCell hge _).setCell hge _).setCell hge _).setCell hge _)
      · have hC0 : C = 0 := by omega
        subst hC0
        obtain ⟨w2, pu, ct2, gr⟩ := ct.put (by unfold maxLen; omega) X hx 1
        have hms := ct.lt
        have B2 : Hid (Below w.heap.size w w2) := ⟨gr.os.trans BR.out.os, gr.tape.trans BR.out.tape, gr.output.trans BR.out.output, Nat.le_trans BR.out.size gr.size, fun b hb => (gr.block b (by omega) (fun e => by injection e; omega)).trans (BR.out.block b hb)⟩
        have K2 : Hid (∀ b, b < W.heap.size → b ≠ w.heap.size + 1 + 1 → w2.heap[b]? = W.heap[b]?) := fun b hb hn => (gr.block b (by omega) (fun e => hn (by injection e))).trans (KP.out b hb hn)
        have CT2 := hid ct2
        clear ct ct2 gr hms
        go_wp2_with fail
        go_roundg (xs.length - (k + 1))
        case measure => omega
        case rel =>
          refine ⟨k + 1, by omega, by omega, by go_num, B2.out, K2.out, ⟨_, CT2.out, fun x => ?_⟩, (show Aside _ from fun j hj => ?_)⟩
          · rw [HN.out x]
            by_cases e : x = X
            · subst e
              rw [HC2.out]
              simp
            · simp only [if_neg e]
              rw [HF.out x]
              simp
          · by_cases e : j = k
            · subst e
              rw [HT.out]
              simp
            · exact AL.out j (by omega)
    · have hke : k = xs.length := by omega
      have hlti : ¬ (k : Int) < xs.length := by omega
      go_wp2_with fail
      rw [Tx.setCell_self y0, Tx.setCell_self y1, Tx.setCell_self y2, Tx.setCell_self y3, Tx.setCell_self y4, Tx.setCell_self y5, Tx.setCell_self y6, Tx.setCell_self y7, Tx.setCell_self y8]
      exact bodyPost_ret (v := .tuple #[an0, .bool false]) (by simp [results, Try.results70, go_sem, y0, y1, y2, y3, y4, y5, y6, y7, y8]) rfl ⟨.inl ⟨fun j hj => AL.out j (by omega), rfl⟩, BR.out⟩
end Go.Proofs.Ytnfbcmnlloipiaa
