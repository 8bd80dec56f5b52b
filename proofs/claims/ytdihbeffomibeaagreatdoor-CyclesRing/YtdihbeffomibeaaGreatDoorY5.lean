/-
  The document's graphs: New.
  The document's graphs: Out, Edges.
  Equal lists of edges.
  drawn: two graphs of the same edges.
  Plain: walks along edges, their numbers, and what a search in width knows while it goes.
-/
import Derived.Test.YtdihbeffomibeaaGreatDoorY4
import Derived.Deep.RegionLaw
namespace Go.Proofs.YtdihbeffomibeaaGreatDoor
set_option linter.unusedVariables false
set_option linter.unusedSimpArgs false
open Go.RowKit

theorem Tryz.info42 : (Tryz.prog.info? 40).map (fun i => (i.zero, i.size, i.bytes)) = some (some (.slice none 0 0), 1, 24) := by kernel_rfl
theorem made_ints (m : Nat) : madeCells #[Value.int .i64 0] m = Array.replicate m (Value.int .i64 0) := by
  apply Array.ext
  · simp [madeCells]
  · intro i h1 h2
    have h0 : i % 1 = 0 := by omega
    simp [madeCells, h0]
/-- The places of the first k rows. -/
def placesV (n : Nat) (rw' : Nat → Nat) (k : Nat) : List Value := (List.range k).map fun i => Value.slice (some ⟨rw' i, 0, none⟩) n n
/-- The document's graph that is made: its first k rows are. -/
structure MadeG (w : World) (H b n k : Nat) (v : Value) (rw' : Nat → Nat) : Prop where
  box : w.heap[b]? = some (.cells #[v] 83)
  rows : w.ownsRow H 40 1 v k (placesV n rw' k)
  each : ∀ i, i < k → w.heap[rw' i]? = some (.cells (Array.replicate n (Value.int .i64 0)) 3)
  apart : ∀ i j, i < k → j < k → i ≠ j → rw' i ≠ rw' j
  low : H ≤ b ∧ ∀ i, i < k → H ≤ rw' i
theorem placesV_succ (n : Nat) (rw' : Nat → Nat) (k a : Nat) : placesV n (fun i => if i = k then a else rw' i) (k + 1) = placesV n rw' k ++ [.slice (some ⟨a, 0, none⟩) n n] := by
  unfold placesV
  rw [List.range_succ, List.map_append]
  congr 1
  · apply List.map_congr_left
    intro i hi
    have : i < k := List.mem_range.1 hi
    show Value.slice (some ⟨if i = k then a else rw' i, 0, none⟩) n n = _
    rw [if_neg (by omega)]
  · simp
theorem MadeG.ne {w : World} {H b n k : Nat} {v : Value} {rw' : Nat → Nat} (h : MadeG w H b n k v rw') {x : Nat} {cs : Array Value} {t : TypeId} (hx : w.heap[x]? = some (.cells cs t)) (ht : t ≠ 40) : some x ≠ v.ownBlock := by
  rcases h.rows.2 with ⟨hv, _⟩ | ⟨g, cap, cur, hv, _, h2, _⟩
  · rw [hv]; simp [Value.ownBlock]
  · rw [hv]
    simp [Value.ownBlock]
    exact tags hx h2 ht
/-- One row more. -/
theorem MadeG.next {w w4 : World} {H b n k a : Nat} {v v4 : Value} {rw' : Nat → Nat} {lit : Obj} (h : MadeG w H b n k v rw') (ha : a = w.heap.size)
    (hw4 : ((w.alloc (.cells (Array.replicate n (Value.int .i64 0)) 3)).alloc lit).drew.grownBy w4 v.ownBlock) (hown : w4.ownsRow H 40 1 v4 (k + 1) (placesV n rw' k ++ [.slice (some ⟨a, 0, none⟩) n n])) :
    MadeG (w4.setCell ⟨b, 0, none⟩ v4) H b n (k + 1) v4 (fun i => if i = k then a else rw' i) := by
  subst ha
  have keep : ∀ (x : Nat) (cs : Array Value) (t : TypeId), w.heap[x]? = some (.cells cs t) → t ≠ 40 → w4.heap[x]? = some (.cells cs t) := fun x cs t hx ht => by
    have h1 : ((w.alloc (.cells (Array.replicate n (Value.int .i64 0)) 3)).alloc lit).drew.heap[x]? = some (.cells cs t) := by
      show ((w.alloc (.cells (Array.replicate n (Value.int .i64 0)) 3)).alloc lit).heap[x]? = _
      rw [Below.heap_alloc _ _ _ (by have := blt hx; simp; omega), Below.heap_alloc _ _ _ (blt hx)]
      exact hx
    exact (hw4.block x (blt h1) (h.ne hx ht)).trans h1
  have newrow : w4.heap[w.heap.size]? = some (.cells (Array.replicate n (Value.int .i64 0)) 3) := by
    have h1 : ((w.alloc (.cells (Array.replicate n (Value.int .i64 0)) 3)).alloc lit).drew.heap[w.heap.size]? = some (.cells (Array.replicate n (Value.int .i64 0)) 3) := by
      show ((w.alloc (.cells (Array.replicate n (Value.int .i64 0)) 3)).alloc lit).heap[w.heap.size]? = _
      rw [Below.heap_alloc _ _ _ (by simp)]
      exact heap_alloc_new w _
    refine (hw4.block _ (blt h1) ?_).trans h1
    rcases h.rows.2 with ⟨hv, _⟩ | ⟨g, cap, cur, hv, _, h2, _⟩
    · rw [hv]; simp [Value.ownBlock]
    · rw [hv]
      simp [Value.ownBlock]
      have := blt h2
      omega
  have hb4 : w4.heap[b]? = some (.cells #[v] 83) := keep b _ 83 h.box (by decide)
  have hbs : Beside b w4 (w4.setCell ⟨b, 0, none⟩ v4) := (Beside.refl b w4).setCell (p := ⟨b, 0, none⟩) rfl _
  have each4 : ∀ i, i < k + 1 → w4.heap[if i = k then w.heap.size else rw' i]? = some (.cells (Array.replicate n (Value.int .i64 0)) 3) := fun i hi => by
    by_cases e : i = k
    · rw [if_pos e]; exact newrow
    · rw [if_neg e]; exact keep _ _ 3 (h.each i (by omega)) (by decide)
  refine ⟨?_, ?_, fun i hi => ?_, fun i j hi hj hne => ?_, h.low.1, fun i hi => ?_⟩
  · rw [Go.Joins.block_setCell hb4]
    rfl
  · rw [placesV_succ]
    refine World.ownsRow.kept (row := some b) hown ⟨hbs.os, hbs.tape, hbs.output, hbs.size, fun x hx hn => hbs.block x hx (fun e => hn (by rw [e]))⟩ ?_
    rcases hown.2 with ⟨hv, hk0⟩ | ⟨g, cap, cur, hv, _, h2, _⟩
    · omega
    · rw [hv]
      right
      simp [Value.ownBlock]
      exact tags h2 hb4 (by decide)
  · exact (hbs.block _ (blt (each4 i hi)) (tags (each4 i hi) hb4 (by decide))).trans (each4 i hi)
  · show (if i = k then w.heap.size else rw' i) ≠ (if j = k then w.heap.size else rw' j)
    by_cases e1 : i = k
    · rw [if_pos e1, if_neg (by omega)]
      have := blt (h.each j (by omega))
      omega
    · rw [if_neg e1]
      by_cases e2 : j = k
      · rw [if_pos e2]
        have := blt (h.each i (by omega))
        omega
      · rw [if_neg e2]
        exact h.apart i j (by omega) (by omega) hne
  · show H ≤ (if i = k then w.heap.size else rw' i)
    by_cases e1 : i = k
    · rw [if_pos e1]
      have h1 := blt h.box
      have h2 := h.low.1
      omega
    · rw [if_neg e1]
      exact h.low.2 i (by omega)

set_option maxHeartbeats 4000000 in
set_option maxRecDepth 100000 in
theorem rgnew_ok (n : Nat) (hn : n ≤ 300) (w : World) : Calls Tryz.prog 31 #[.int .i64 n] w fun e w' => e = .returned (.tuple #[.pointer (some ⟨w.heap.size, 0, none⟩), .int .i64 0]) ∧ (∃ v rw', MadeG w' w.heap.size w.heap.size n n v rw') ∧ Below w.heap.size w w' := by
  obtain ⟨i0, hi, hz'⟩ := Option.map_eq_some_iff.1 Tryz.info42
  simp only [Prod.mk.injEq] at hz'
  obtain ⟨hz0, hz1, hz2⟩ := hz'
  have HI := hid hi
  have HZ0 := hid hz0
  have HZ1 := hid hz1
  have HZ2 := hid hz2
  clear hi hz0 hz1 hz2
  have hmk := run_make_row' (P := Tryz.prog) 40 3 (.int .i64 0) 8 Tryz.underlying40 Tryz.info3 rfl .i64 .i64 n (by omega) (by omega)
  have h0 : (0 : Int) ≤ n := by omega
  have h1 : (n : Int) ≤ 300 := by omega
  rw [made_ints] at hmk
  have HMK := hid hmk
  clear hmk
  go_enter Tryz.func31, Tryz.ntmps31
  go_wp2_with fail
  have M0 : Hid (MadeG (w.alloc (.cells #[.slice none 0 0] 83)) w.heap.size w.heap.size n 0 (.slice none 0 0) (fun _ => 0)) := ⟨heap_alloc_new w _, World.ownsRow_nil _ _ _ _, fun i hi => by omega, fun i j hi => by omega, Nat.le_refl _, fun i hi => by omega⟩
  have B0 : Hid (Below w.heap.size w (w.alloc (.cells #[.slice none 0 0] 83))) := below_box w _
  have hlt0 : w.heap.size < (w.alloc (.cells #[.slice none 0 0] 83)).heap.size := by simp
  generalize w.alloc (.cells #[.slice none 0 0] 83) = W0 at *
  go_loopg [14] n (fun g i wr => ∃ (k : Nat) (v : Value) (rw' : Nat → Nat), k ≤ n ∧ n - k ≤ g ∧ i = .int .i64 k ∧ Aside (MadeG wr w.heap.size w.heap.size n k v rw') ∧ Aside (Below w.heap.size w wr))
  case atStart => exact ⟨0, _, _, Nat.zero_le _, by omega, rfl, M0.out, B0.out⟩
  case round =>
    obtain ⟨k, v, rw', hk, hg, rfl, MX, BX⟩ := hrel
    by_cases hlt : k < n
    · have hlti : (k : Int) < n := by omega
      have cb : wr.cell? ⟨w.heap.size, 0, none⟩ = some v := Lib.cell_of_heap MX.out.box 0
      have fb : wr.frozen? ⟨w.heap.size, 0, none⟩ = false := Lib.frozen_of_heap MX.out.box 0
      have hbl : w.heap.size < wr.heap.size := blt MX.out.box
      have hmk := HMK.out
      have OWN : Hid (∀ o1 o2, ((wr.alloc o1).alloc o2).drew.ownsRow w.heap.size 40 1 v k (placesV n rw' k)) := fun o1 o2 => by
        have := World.ownsRow.alloc (World.ownsRow.alloc MX.out.rows o1) o2
        exact this
      have NEWS : Hid (∀ o1, ∀ j u, [Value.slice (some ⟨wr.heap.size, 0, none⟩) n n][j]? = some u → ((wr.alloc o1).alloc (.cells #[Value.slice (some ⟨wr.heap.size, 0, none⟩) n n] 40)).drew.cell? ((⟨wr.heap.size + 1, 0, none⟩ : Addr).add j) = some u) := fun o1 => by
        have := heap_alloc_new (wr.alloc o1) (.cells #[Value.slice (some ⟨wr.heap.size, 0, none⟩) n n] 40)
        have e : (wr.alloc o1).heap.size = wr.heap.size + 1 := by simp
        rw [e] at this
        exact World.news_of_block (w := ((wr.alloc o1).alloc (.cells #[Value.slice (some ⟨wr.heap.size, 0, none⟩) n n] 40)).drew) (cs := #[Value.slice (some ⟨wr.heap.size, 0, none⟩) n n]) (t := 40) (fr := (0, 0)) this
      have NE := hid (MX.out.ne MX.out.box (by decide))
      go_wp2_with fail
      go_region_law (refine step_append_lies _ rfl (.tmp 20) (.tmp 23) 81 rfl w.heap.size 40 i0 _ 1 24 Tryz.underlying81 HI.out HZ0.out HZ1.out HZ2.out rfl (by decide) v k (placesV n rw' k) (by simp [Act.eval, Act.put]) (OWN.out _ _) ⟨wr.heap.size + 1, 0, none⟩ 1 1 [.slice (some ⟨wr.heap.size, 0, none⟩) n n] (by simp [Act.eval, Act.put]) rfl (NEWS.out _) (by intro u hu; simp at hu; subst hu; rfl) (by decide) (by unfold maxLen; omega) (by omega) (by simp; omega) (wr.heap.size + 2) (by simp) ?_; intro g cap w4 hown4 hgrow hat hglt; have cb4 : w4.cell? ⟨w.heap.size, 0, none⟩ = some v := hgrow.cell (a := ⟨w.heap.size, 0, none⟩) (Lib.cell?_alloc_some _ (Lib.cell?_alloc_some _ cb)) NE.out; have fb4 : w4.frozen? ⟨w.heap.size, 0, none⟩ = false := (World.grownBy.frozen_far hgrow ⟨w.heap.size, 0, none⟩ (by simp; omega) NE.out).trans (((((Below.refl _ wr).alloc (Nat.le_refl _) _).alloc (by simp) _).frozen (p := ⟨w.heap.size, 0, none⟩) hbl).trans fb); have HOWN := hid hown4; have HGR := hid hgrow; clear hown4 hgrow hat hglt)
      all_goals (try go_wp2_with fail)
      all_goals
        have MN := hid (MX.out.next rfl HGR.out HOWN.out)
        have BN : Hid (Below w.heap.size w w4) := (BX.out.trans (((below_box wr _).alloc (by simp) _).mono BX.out.size)).drew.grown HGR.out (by simp; omega) (fun x hx => (MX.out.rows.lt x hx).1)
        go_roundg (n - (k + 1))
        · exact ⟨k + 1, _, _, by omega, by omega, by go_num, MN.out, BN.out.setCell (Nat.le_refl _) _⟩
        · omega
    · have hlti : ¬ (k : Int) < n := by omega
      have ek : n = k := by omega
      subst ek
      go_wp2_with fail
      go_ret2
      exact ⟨rfl, ⟨v, rw', MX.out⟩, BX.out⟩
theorem MadeG.graph {w : World} {H b n : Nat} {v : Value} {rw' : Nat → Nat} (h : MadeG w H b n n v rw') (hn : n ≤ 300) : RefG w b n v rw' (fun _ _ => 0) := by
  refine ⟨h.box, ⟨h.rows.1, ?_⟩, fun i hi => ⟨_, h.each i hi, by simp, fun j hj => by simp [hj]⟩, h.apart, fun _ _ => by decide, hn⟩
  rcases h.rows.2 with h1 | ⟨g, cap, cur, h1, h2, h3⟩
  · exact .inl h1
  · exact .inr ⟨g, cap, cur, h1, Nat.zero_le _, h3⟩
theorem rgnew_no (n : Int) (hn : n < 0 ∨ 300 < n) (w : World) : Calls Tryz.prog 31 #[.int .i64 n] w fun e w' => e = .returned (.tuple #[.pointer none, .int .i64 1]) ∧ w = w' := by
  rcases hn with h | h
  · go_enter Tryz.func31, Tryz.ntmps31
    go_wp2
    go_ret2
    exact ⟨rfl, rfl⟩
  · have h0 : ¬ n < 0 := by omega
    go_enter Tryz.func31, Tryz.ntmps31
    go_wp2
    go_ret2
    exact ⟨rfl, rfl⟩
end Go.Proofs.YtdihbeffomibeaaGreatDoor
namespace Go.Proofs.YtdihbeffomibeaaGreatDoor
set_option linter.unusedVariables false
set_option linter.unusedSimpArgs false
open Go.RowKit

theorem i64_and1 (n : Int) : bits .and .i64 n 1 = n % 2 := by
  have h1 : (BitVec.ofInt 64 1).toNat = 2 ^ 1 - 1 := by decide
  have key : (BitVec.ofInt 64 n &&& BitVec.ofInt 64 1).toNat = (n % ((2 ^ 64 : Nat) : Int)).toNat % 2 ^ 1 := by
    rw [BitVec.toNat_and, BitVec.toNat_ofInt, h1, Nat.and_two_pow_sub_one_eq_mod]
  show IntKind.i64.wrap ((BitVec.ofInt 64 n &&& BitVec.ofInt 64 1).toNat : Nat) = n % 2
  rw [key, IntKind.wrap_i64]
  omega
theorem and_low (x y : Nat) (hx : x < 16) : x &&& y = x &&& (y % 16) := by
  have e : x = x % 2 ^ 4 := (Nat.mod_eq_of_lt hx).symm
  apply Nat.eq_of_testBit_eq
  intro i
  rw [Nat.testBit_and, Nat.testBit_and, show (16 : Nat) = 2 ^ 4 from rfl, Nat.testBit_mod_two_pow]
  by_cases h : i < 4
  · simp [h]
  · have : x.testBit i = false := Nat.testBit_lt_two_pow (Nat.lt_of_lt_of_le hx (Nat.pow_le_pow_right (n := 2) (i := 4) (by decide) (by omega)))
    simp [this]
theorem i64_and_low (x : Nat) (hx : x < 16) (m : Int) : bits .and .i64 (x : Int) m = ((x &&& (m % 16).toNat : Nat) : Int) := by
  have hx2 : (BitVec.ofInt 64 (x : Int)).toNat = x := by
    rw [BitVec.ofInt_natCast, BitVec.toNat_ofNat]; exact Nat.mod_eq_of_lt (by omega)
  have key : (BitVec.ofInt 64 (x : Int) &&& BitVec.ofInt 64 m).toNat = x &&& (m % 16).toNat := by
    rw [BitVec.toNat_and, hx2, BitVec.toNat_ofInt, and_low x _ hx]
    congr 1
    omega
  show IntKind.i64.wrap ((BitVec.ofInt 64 (x : Int) &&& BitVec.ofInt 64 m).toNat : Nat) = _
  rw [key, IntKind.wrap_i64]
  have : x &&& (m % 16).toNat ≤ x := Nat.and_le_left
  omega
theorem lbit_low (m : Int) (i : Nat) (hi : i < 4) : lbit m i = ((m % 16).toNat).testBit i := by
  unfold lbit
  rw [i64_and1, Nat.testBit_eq_decide_div_mod_eq, Bool.eq_iff_iff]
  have h4 : i = 0 ∨ i = 1 ∨ i = 2 ∨ i = 3 := by omega
  rcases h4 with rfl | rfl | rfl | rfl <;> simp <;> omega
set_option maxRecDepth 100000 in
theorem any_and : ∀ x : Nat, x < 16 → ∀ M : Nat, M < 16 → ((List.range 4).any fun i => M.testBit i && x.testBit i) = !(x &&& M == 0) := by decide +kernel
theorem ends_and (L : Nat → Nat → Nat) (f t : Nat) (labels : Int) (hx : L f t < 16) : (bits BinOp.and IntKind.i64 (L f t : Int) labels == 0) = !endsF L f labels 4 t := by
  have e : endsF L f labels 4 t = ((List.range 4).any fun i => ((labels % 16).toNat).testBit i && (L f t).testBit i) := by
    have hr : List.range 4 = [0, 1, 2, 3] := rfl
    unfold endsF
    rw [hr]
    simp only [List.any_cons, List.any_nil]
    rw [lbit_low labels 0 (by omega), lbit_low labels 1 (by omega), lbit_low labels 2 (by omega), lbit_low labels 3 (by omega)]
  rw [e, any_and _ hx _ (by omega), i64_and_low _ hx, Bool.not_not, Bool.eq_iff_iff]
  simp

set_option maxHeartbeats 4000000 in
set_option maxRecDepth 100000 in
theorem rout_gen (b n : Nat) (v : Value) (rw' : Nat → Nat) (L : Nat → Nat → Nat) (f labels : Int) (F : Nat → Bool) (x : Nat → Nat) (w : World) (h : RefG w b n v rw' L)
    (hx : ∀ t, t < n → ∀ W, RefG W b n v rw' L → Calls Tryz.prog 29 #[.pointer (some ⟨b, 0, none⟩), .int .i64 f, .int .i64 t] W fun e w' => e = .returned (.int .i64 (x t)) ∧ W = w') (hF : ∀ t, t < n → (bits BinOp.and IntKind.i64 (x t : Int) labels == 0) = !F t) :
    Calls Tryz.prog 49 #[.pointer (some ⟨b, 0, none⟩), .int .i64 f, .int .i64 labels] w fun e w' => (∃ u, e = .returned u ∧ Ints w.heap.size w' u (lst F n)) ∧ Below w.heap.size w w' := by
  obtain ⟨i0, hi, hz'⟩ := Option.map_eq_some_iff.1 Tryz.info3
  simp only [Prod.mk.injEq] at hz'
  obtain ⟨hz0, hz1, hz2⟩ := hz'
  have HI := hid hi
  have HZ0 := hid hz0
  have HZ1 := hid hz1
  have HZ2 := hid hz2
  clear hi hz0 hz1 hz2
  have R := hid h
  have HX := hid hx
  have HF := hid hF
  have hn3 := h.bound
  have hni : (n : Int) ≤ 300 := by omega
  obtain ⟨ao, cap, hv, hr⟩ := h.form
  have c0 := h.c0
  rw [hv] at c0
  clear h hr hx hF hv
  go_enter Tryz.func49, Tryz.ntmps49
  go_wp2_with fail
  go_loopg [7, 8, 14] n (fun g l _ i wr => ∃ k : Nat, k ≤ n ∧ n - k ≤ g ∧ i = .int .i64 k ∧ Aside (Ints w.heap.size wr l (lst F k)) ∧ Aside (Below w.heap.size w wr))
  case atStart => exact ⟨0, Nat.zero_le _, by omega, rfl, World.ownsRow_nil _ _ _ _, Below.refl _ _⟩
  case round =>
    obtain ⟨k, hk, hg, rfl, OX, BX⟩ := hrel
    by_cases hlt : k < n
    · have hlti : (k : Int) < n := by omega
      have HO := hid (lst_one F k)
      have HC := hid (HX.out k hlt wr (R.out.later BX.out))
      have q := HF.out k hlt
      obtain ⟨y, hy⟩ : ∃ y, x k = y := ⟨_, rfl⟩
      rw [hy] at HC q
      clear hy
      cases hfk : F k
      · rw [hfk] at q HO
        simp only [Bool.not_false] at q
        clear hfk
        go_wp2_with (go_at_call 29; refine HC.out.mono ?_; rintro e w' ⟨rfl, rfl⟩)
        go_roundg (n - (k + 1))
        · exact ⟨k + 1, by omega, by omega, by go_num, by have h := HO.out; simp at h; rw [h]; exact OX.out, BX.out⟩
        · omega
      · rw [hfk] at q HO
        simp only [Bool.not_true] at q
        clear hfk
        have HLE := hid (lst_le F k)
        have hsz := hid BX.out.size
        go_wp2_with (first | (go_at_call 29; refine HC.out.mono ?_; rintro e w' ⟨rfl, rfl⟩) | (at_builtin; refine wpList_append_lies _ rfl _ _ 40 rfl w.heap.size 3 i0 _ 1 8 Tryz.underlying40 HI.out HZ0.out HZ1.out HZ2.out rfl (by decide) u7 (lst F k).length (intsV (lst F k)) rfl ?hown ⟨wr.heap.size, 0, none⟩ 1 1 [.int .i64 k] rfl rfl ?hnews ?hone (by decide) ?h63 ?hby ?hbase (wr.heap.size + 1) ?hH ?_))
        case hown => exact World.ownsRow.alloc OX.out _
        case hnews => exact World.news_of_block (heap_alloc_new wr (.cells #[.int .i64 k] 3))
        case hone => intro u hu; simp at hu; subst hu; rfl
        case h63 => have := HLE.out; unfold maxLen; omega
        case hby => have := HLE.out; omega
        case hbase => have := hsz.out; simp; omega
        case hH => simp
        intro g cap' w4 hown4 hgrow hat hglt
        have B4 : Hid (Below w.heap.size w w4) := BX.out.trans (((below_box wr _).mono hsz.out).grown hgrow (by have := hsz.out; simp; omega) (fun x hx => (OX.out.lt x hx).1))
        have O4 : Hid (Ints w.heap.size w4 (.slice (some ⟨g, 0, none⟩) ((lst F k).length + 1) cap') (lst F (k + 1))) := by
          unfold Ints intsV at *
          have h := HO.out
          simp at h
          rw [h, List.map_append, List.length_append]
          exact hown4
        clear hown4 hgrow hat hglt
        go_wp2_with fail
        go_roundg (n - (k + 1))
        · exact ⟨k + 1, by omega, by omega, by go_num, O4.out, B4.out⟩
        · omega
    · have hlti : ¬ (k : Int) < n := by omega
      have ek : n = k := by omega
      subst ek
      go_wp2_with fail
      go_ret
      exact ⟨⟨_, rfl, OX.out⟩, BX.out⟩
theorem rout_ok (b n : Nat) (v : Value) (rw' : Nat → Nat) (L : Nat → Nat → Nat) (f : Nat) (labels : Int) (w : World) (h : RefG w b n v rw' L) (hf : f < n) :
    Calls Tryz.prog 49 #[.pointer (some ⟨b, 0, none⟩), .int .i64 f, .int .i64 labels] w fun e w' => (∃ u, e = .returned u ∧ Ints w.heap.size w' u (lst (endsF L f labels 4) n)) ∧ Below w.heap.size w w' :=
  rout_gen b n v rw' L f labels (endsF L f labels 4) (L f) w h (fun t ht W hW => rlabels_ok b n v rw' L f t W hW hf ht) (fun t ht => ends_and L f t labels (h.small f t))
theorem rout_no (b n : Nat) (v : Value) (rw' : Nat → Nat) (L : Nat → Nat → Nat) (f labels : Int) (w : World) (h : RefG w b n v rw' L) (hf : f < 0 ∨ (n : Int) ≤ f) :
    Calls Tryz.prog 49 #[.pointer (some ⟨b, 0, none⟩), .int .i64 f, .int .i64 labels] w fun e w' => (∃ u, e = .returned u ∧ Ints w.heap.size w' u []) ∧ Below w.heap.size w w' := by
  have e : lst (fun _ => false) n = [] := by unfold lst; simp
  have := rout_gen b n v rw' L f labels (fun _ => false) (fun _ => 0) w h (fun t ht W hW => rlabels_no b n v rw' L f t W hW (.inl hf)) (fun t ht => by
    have := i64_and_low 0 (by decide) labels
    simp at this
    simp [this])
  rw [e] at this
  exact this
end Go.Proofs.YtdihbeffomibeaaGreatDoor
namespace Go.Proofs.YtdihbeffomibeaaGreatDoor
set_option linter.unusedVariables false
set_option linter.unusedSimpArgs false
open Go.RowKit

/-- A slice of edges that can be read. -/
def ArgE (w : World) (ao : Option Addr) (es : List (Int × Int × Int)) : Prop :=
  ∀ j, j < es.length → ∃ b off, ao = some ⟨b, off, none⟩ ∧ w.cell? ⟨b, off + j * 3, none⟩ = some (.int .i64 (es.getD j (0, 0, 0)).1) ∧ w.cell? ⟨b, off + j * 3 + 1, none⟩ = some (.int .i64 (es.getD j (0, 0, 0)).2.1) ∧ w.cell? ⟨b, off + j * 3 + 2, none⟩ = some (.int .i64 (es.getD j (0, 0, 0)).2.2)
theorem ArgE.later {w w' : World} {ao : Option Addr} {es : List (Int × Int × Int)} (h : ArgE w ao es) (hb : Below w.heap.size w w') : ArgE w' ao es := fun j hj => by
  obtain ⟨b, off, e, h0, h1, h2⟩ := h j hj
  exact ⟨b, off, e, (hb.cell (p := ⟨b, off + j * 3, none⟩) (World.block_lt_of_cell? _ _ h0)).trans h0, (hb.cell (p := ⟨b, off + j * 3 + 1, none⟩) (World.block_lt_of_cell? _ _ h1)).trans h1, (hb.cell (p := ⟨b, off + j * 3 + 2, none⟩) (World.block_lt_of_cell? _ _ h2)).trans h2⟩
def intE (e : Nat × Nat × Nat) : Int × Int × Int := (e.1, e.2.1, e.2.2)
theorem edgesV_at (l : List (Nat × Nat × Nat)) (j : Nat) (hj : j < l.length) : (edgesV l)[3 * j]? = some (.int .i64 (l.getD j (0, 0, 0)).1) ∧ (edgesV l)[3 * j + 1]? = some (.int .i64 (l.getD j (0, 0, 0)).2.1) ∧ (edgesV l)[3 * j + 2]? = some (.int .i64 (l.getD j (0, 0, 0)).2.2) := by
  induction l generalizing j with
  | nil => simp at hj
  | cons e l ih =>
    have e0 : edgesV (e :: l) = edgeV e ++ edgesV l := by unfold edgesV; simp
    rw [e0]
    cases j with
    | zero => simp [edgeV]
    | succ j =>
      have hl : (edgeV e).length = 3 := rfl
      obtain ⟨h0, h1, h2⟩ := ih j (by simp at hj; omega)
      have a0 : 3 * (j + 1) = (edgeV e).length + 3 * j := by omega
      have a1 : 3 * (j + 1) + 1 = (edgeV e).length + (3 * j + 1) := by omega
      have a2 : 3 * (j + 1) + 2 = (edgeV e).length + (3 * j + 2) := by omega
      rw [a0]
      rw [a0] at a1 a2
      rw [a1, a2]
      simp only [List.getElem?_append_right (Nat.le_add_right _ _), Nat.add_sub_cancel_left]
      simpa using ⟨h0, h1, h2⟩
theorem EdgesIn.arg {B : Nat} {w : World} {v : Value} {l : List (Nat × Nat × Nat)} (h : EdgesIn B w v l) : ∃ ao c, v = .slice ao (l.map intE).length c ∧ ArgE w ao (l.map intE) := by
  rcases h.2 with ⟨hv, hn⟩ | ⟨g, cap, cur, hv, hB, hg, hnc, hm, hs, ht⟩
  · refine ⟨none, 0, by rw [hv, List.length_map, hn], fun j hj => ?_⟩
    rw [List.length_map] at hj
    omega
  · refine ⟨_, _, by rw [hv, List.length_map], fun j hj => ⟨g, 0, rfl, ?_⟩⟩
    rw [List.length_map] at hj
    obtain ⟨h0, h1, h2⟩ := edgesV_at l j hj
    have eg : (l.map intE).getD j (0, 0, 0) = intE (l.getD j (0, 0, 0)) := by
      simp [List.getD, hj]
    rw [eg]
    rw [← ht, List.getElem?_take] at h0 h1 h2
    split at h0
    · split at h1
      · split at h2
        · refine ⟨?_, ?_, ?_⟩
          · rw [Nat.zero_add, Lib.cell_of_heap hg]
            simpa [Nat.mul_comm, intE] using h0
          · rw [Nat.zero_add, Lib.cell_of_heap hg]
            simpa [Nat.mul_comm, intE] using h1
          · rw [Nat.zero_add, Lib.cell_of_heap hg]
            simpa [Nat.mul_comm, intE] using h2
        · cases h2
      · cases h1
    · cases h0
end Go.Proofs.YtdihbeffomibeaaGreatDoor
namespace Go.Proofs.YtdihbeffomibeaaGreatDoor
set_option linter.unusedVariables false
set_option linter.unusedSimpArgs false
open Go.RowKit

/-- A graph of the program and one of the document, alike, in blocks from H on. -/
def Both (H : Nat) (w : World) (b n b2 : Nat) : Prop :=
  ∃ r bk ck v rw' L, Graph w b n r bk ck L ∧ RefG w b2 n v rw' L ∧ (∀ k, k < 4 * n → H ≤ ck k) ∧ (∀ i, i < n → H ≤ rw' i)
theorem Both.later {H : Nat} {w w' : World} {b n b2 : Nat} (h : Both H w b n b2) (hb : Below w.heap.size w w') : Both H w' b n b2 := by
  obtain ⟨r, bk, ck, v, rw', L, h1, h2, h3⟩ := h
  exact ⟨r, bk, ck, v, rw', L, h1.later hb, h2.later hb, h3⟩
theorem Graph.words {w : World} {b n r : Nat} {bk ck : Nat → Nat} {L : Nat → Nat → Nat} (h : Graph w b n r bk ck L) (k : Nat) (hk : k < 4 * n) : ∃ cs, w.heap[ck k]? = some (.cells cs 109) := by
  obtain ⟨ws, s1, s2⟩ := (h.sets k hk).ex
  exact ⟨_, s1.row⟩
/-- What is no block of words stays when words are written. -/
theorem Save.at {w w' : World} {b n r : Nat} {bk ck : Nat → Nat} {L : Nat → Nat → Nat} {f : Nat} (h : Graph w b n r bk ck L) (hf : f < n) (hs : Save (fun c => ∃ i, i < 4 ∧ c = ck (4 * f + i)) w w') {x : Nat} {cs : Array Value} {t : TypeId} (hx : w.heap[x]? = some (.cells cs t)) (ht : t ≠ 109) : w'.heap[x]? = some (.cells cs t) := by
  refine (hs.block x (blt hx) ?_).trans hx
  rintro ⟨i, hi, rfl⟩
  obtain ⟨cs', h1⟩ := h.words (4 * f + i) (by omega)
  exact tags hx h1 ht rfl
theorem RefG.save {w w' : World} {b n r : Nat} {bk ck : Nat → Nat} {L : Nat → Nat → Nat} {f : Nat} (h : Graph w b n r bk ck L) (hf : f < n) (hs : Save (fun c => ∃ i, i < 4 ∧ c = ck (4 * f + i)) w w') {b2 : Nat} {v : Value} {rw' : Nat → Nat} {L' : Nat → Nat → Nat} (h2 : RefG w b2 n v rw' L') : RefG w' b2 n v rw' L' := by
  refine ⟨Save.at h hf hs h2.box (by decide), ⟨h2.rows.1, ?_⟩, fun i hi => ?_, h2.apart, h2.small, h2.bound⟩
  · rcases h2.rows.2 with h1 | ⟨g, cap, cur, h1, h3, h4, h5⟩
    · exact .inl h1
    · exact .inr ⟨g, cap, cur, h1, h3, Save.at h hf hs h4 (by decide), h5⟩
  · obtain ⟨cur, h1, h3⟩ := h2.each i hi
    exact ⟨cur, Save.at h hf hs h1 (by decide), h3⟩
/-- A row of the document's graph is written: what is no block of ints stays. -/
theorem RefG.at {w w' : World} {b2 n : Nat} {v : Value} {rw' : Nat → Nat} {L : Nat → Nat → Nat} {f : Nat} (h : RefG w b2 n v rw' L) (hf : f < n) (hs : Beside (rw' f) w w') {x : Nat} {cs : Array Value} {t : TypeId} (hx : w.heap[x]? = some (.cells cs t)) (ht : t ≠ 3) : w'.heap[x]? = some (.cells cs t) := by
  obtain ⟨cur, h1, _⟩ := h.each f hf
  exact (hs.block x (blt hx) (tags hx h1 ht)).trans hx
theorem Graph.beside_row {w w' : World} {b2 n : Nat} {v : Value} {rw' : Nat → Nat} {L : Nat → Nat → Nat} {f : Nat} (h : RefG w b2 n v rw' L) (hf : f < n) (hs : Beside (rw' f) w w') {b r : Nat} {bk ck : Nat → Nat} {L' : Nat → Nat → Nat} (h2 : Graph w b n r bk ck L') : Graph w' b n r bk ck L' := by
  obtain ⟨cur, h3, h4⟩ := h2.row
  refine ⟨h.at hf hs h2.box (by decide), ⟨cur, h.at hf hs h3 (by decide), h4⟩, fun k hk => ?_, h2.apart, h2.small, h2.bound⟩
  obtain ⟨ws, s1, s2⟩ := (h2.sets k hk).ex
  exact ⟨⟨ws, ⟨h.at hf hs s1.box (by decide), h.at hf hs s1.row (by decide), s1.len, s1.small, s1.bound⟩, s2⟩, (h2.sets k hk).top⟩
theorem addWhy_0 {n : Nat} {f t x : Int} (h : addWhy n f t x = 0) : ∃ F T X : Nat, f = F ∧ t = T ∧ x = X ∧ F < n ∧ T < n ∧ 1 ≤ X ∧ X < 16 ∧ F ≠ T := by
  unfold addWhy at h
  split at h
  · cases h
  · split at h
    · cases h
    · exact ⟨f.toNat, t.toNat, x.toNat, by omega, by omega, by omega, by omega, by omega, by omega, by omega, by omega⟩
end Go.Proofs.YtdihbeffomibeaaGreatDoor
namespace Go.Proofs.YtdihbeffomibeaaGreatDoor

/-- r leads from s to t along edges between nodes below n. -/
def Wl (E : Nat → Nat → Bool) (n : Nat) : Nat → List Nat → Nat → Prop
  | s, [], t => s = t
  | s, m :: r, t => E s m = true ∧ m < n ∧ Wl E n m r t
/-- A walk's number: its nodes are the digits. -/
def cod (n a : Nat) (r : List Nat) : Nat := r.foldl (fun c v => c * (n + 1) + (v + 1)) a

theorem cod_cons (n a v : Nat) (r : List Nat) : cod n a (v :: r) = cod n (a * (n + 1) + (v + 1)) r := rfl
theorem cod_snoc (n a v : Nat) (r : List Nat) : cod n a (r ++ [v]) = cod n a r * (n + 1) + (v + 1) := by
  unfold cod
  rw [List.foldl_append]
  rfl
theorem Wl.snoc {E : Nat → Nat → Bool} {n v t : Nat} : ∀ {r : List Nat} {s : Nat}, Wl E n s (r ++ [v]) t ↔ ∃ u, Wl E n s r u ∧ E u v = true ∧ v < n ∧ v = t := by
  intro r
  induction r with
  | nil =>
    intro s
    constructor
    · rintro ⟨h1, h2, h3⟩; exact ⟨s, rfl, h1, h2, h3⟩
    · rintro ⟨u, h0, h1, h2, h3⟩; cases h0; exact ⟨h1, h2, h3⟩
  | cons m r ih =>
    intro s
    constructor
    · rintro ⟨h1, h2, h3⟩
      obtain ⟨u, k1, k2⟩ := ih.1 h3
      exact ⟨u, ⟨h1, h2, k1⟩, k2⟩
    · rintro ⟨u, ⟨h1, h2, k1⟩, k2⟩
      exact ⟨h1, h2, ih.2 ⟨u, k1, k2⟩⟩
theorem Wl.last {E : Nat → Nat → Bool} {n t : Nat} : ∀ {r : List Nat} {s : Nat}, Wl E n s r t → r ≠ [] → t < n := by
  intro r
  induction r with
  | nil => intro s _ h; exact absurd rfl h
  | cons m r ih =>
    rintro s ⟨h1, h2, h3⟩ _
    cases r with
    | nil => cases h3; exact h2
    | cons a r => exact ih h3 (by simp)
theorem Wl.digits {E : Nat → Nat → Bool} {n t : Nat} : ∀ {r : List Nat} {s : Nat}, Wl E n s r t → ∀ v ∈ r, v < n := by
  intro r
  induction r with
  | nil => intro s _ v h; cases h
  | cons m r ih =>
    rintro s ⟨h1, h2, h3⟩ v hv
    rcases List.mem_cons.1 hv with rfl | hv
    · exact h2
    · exact ih h3 v hv

/-- lists, from their ends -/
theorem snocRec {P : List Nat → Prop} (h0 : P []) (h1 : ∀ r v, P r → P (r ++ [v])) (l : List Nat) : P l := by
  have h : ∀ k (l : List Nat), l.length = k → P l := by
    intro k
    induction k with
    | zero => intro l hl; rw [List.length_eq_zero_iff.1 hl]; exact h0
    | succ k ih =>
      intro l hl
      have hne : l ≠ [] := by rintro rfl; simp at hl
      rw [← List.dropLast_concat_getLast hne]
      exact h1 _ _ (ih _ (by simp [hl]))
  exact h _ l rfl

theorem cod_low (n a : Nat) (ha : 1 ≤ a) (r : List Nat) : (n + 1) ^ r.length ≤ cod n a r := by
  induction r using snocRec with
  | h0 => exact ha
  | h1 r v ih =>
    rw [cod_snoc, List.length_append, List.length_singleton, Nat.pow_succ]
    exact Nat.le_trans (Nat.mul_le_mul_right _ ih) (Nat.le_add_right _ _)
theorem cod_high (n a : Nat) (ha : a ≤ n) (r : List Nat) (hr : ∀ v ∈ r, v < n) : cod n a r < (n + 1) ^ (r.length + 1) := by
  induction r using snocRec with
  | h0 => show a < (n + 1) ^ 1; rw [Nat.pow_one]; omega
  | h1 r v ih =>
    have h1 := ih (fun x hx => hr x (List.mem_append_left _ hx))
    have h2 : v < n := hr v (by simp)
    rw [cod_snoc, List.length_append, List.length_singleton, Nat.pow_succ (n + 1) (r.length + 1)]
    have h3 : (cod n a r + 1) * (n + 1) ≤ (n + 1) ^ (r.length + 1) * (n + 1) := Nat.mul_le_mul_right _ h1
    rw [Nat.add_mul, Nat.one_mul] at h3
    omega
theorem cod_longer (n a : Nat) (h1 : 1 ≤ a) (ha : a ≤ n) (r r' : List Nat) (hr : ∀ v ∈ r, v < n) (hl : r.length < r'.length) : cod n a r < cod n a r' :=
  Nat.lt_of_lt_of_le (cod_high n a ha r hr) (Nat.le_trans (Nat.pow_le_pow_right (by omega) hl) (cod_low n a h1 r'))
/-- A lower beginning is lower whatever follows. -/
theorem cod_lt (n : Nat) : ∀ (r r' : List Nat) (a b : Nat), r.length = r'.length → (∀ v ∈ r, v < n) → a < b → cod n a r < cod n b r' := by
  intro r
  induction r with
  | nil => intro r' a b hl _ h; rw [List.length_eq_zero_iff.1 hl.symm]; exact h
  | cons x r ih =>
    intro r' a b hl hr h
    cases r' with
    | nil => simp at hl
    | cons y r' =>
      rw [cod_cons, cod_cons]
      refine ih r' _ _ (by simpa using hl) (fun v hv => hr v (List.mem_cons_of_mem _ hv)) ?_
      have h2 : x < n := hr x (by simp)
      have h3 : (a + 1) * (n + 1) ≤ b * (n + 1) := Nat.mul_le_mul_right _ h
      rw [Nat.add_mul, Nat.one_mul] at h3
      omega
theorem mul_one_inj {n X Y v w : Nat} (hv : v < n) (hw : w < n) (h : X * (n + 1) + (v + 1) = Y * (n + 1) + (w + 1)) : X = Y ∧ v = w := by
  have h1 : (X * (n + 1) + (v + 1)) % (n + 1) = (Y * (n + 1) + (w + 1)) % (n + 1) := by rw [h]
  rw [Nat.mul_comm X, Nat.mul_comm Y, Nat.mul_add_mod, Nat.mul_add_mod, Nat.mod_eq_of_lt (by omega), Nat.mod_eq_of_lt (by omega)] at h1
  have h2 : v = w := by omega
  subst h2
  have h3 : X * (n + 1) = Y * (n + 1) := by omega
  exact ⟨Nat.eq_of_mul_eq_mul_right (by omega) h3, rfl⟩
theorem cod_inj (n a : Nat) (ha1 : 1 ≤ a) (ha : a ≤ n) (r r' : List Nat) (hr : ∀ v ∈ r, v < n) (hr' : ∀ v ∈ r', v < n) (h : cod n a r = cod n a r') : r = r' := by
  have hl : r.length = r'.length := by
    rcases Nat.lt_trichotomy r.length r'.length with h1 | h1 | h1
    · have := cod_longer n a ha1 ha r r' hr h1; omega
    · exact h1
    · have := cod_longer n a ha1 ha r' r hr' h1; omega
  clear ha1 ha
  have key : ∀ (r r' : List Nat), r.length = r'.length → (∀ v ∈ r, v < n) → (∀ v ∈ r', v < n) → ∀ a b, cod n a r = cod n b r' → a = b ∧ r = r' := by
    intro r
    induction r with
    | nil => intro r' hl _ _ a b h; rw [List.length_eq_zero_iff.1 hl.symm] at h ⊢; exact ⟨h, rfl⟩
    | cons x r ih =>
      intro r' hl hr hr' a b h
      cases r' with
      | nil => simp at hl
      | cons y r' =>
        rw [cod_cons, cod_cons] at h
        obtain ⟨h1, rfl⟩ := ih r' (by simpa using hl) (fun v hv => hr v (List.mem_cons_of_mem _ hv)) (fun v hv => hr' v (List.mem_cons_of_mem _ hv)) _ _ h
        obtain ⟨rfl, rfl⟩ := mul_one_inj (hr x (by simp)) (hr' y (by simp)) h1
        exact ⟨rfl, rfl⟩
  exact (key r r' hl hr hr' a a h).2

/-- What is known: the node to begin with, and those that were reached, with their first walks' numbers. -/
def Ent (s : Nat) (cd : Nat → Nat) (v c : Nat) : Prop := (v = s ∧ c = s + 1) ∨ (cd v = c ∧ c ≠ 0)

/-- What holds while the ends below t of u's edges are done, with Q still to come. -/
structure Bfs (E : Nat → Nat → Bool) (n s : Nat) (cd bf : Nat → Nat) (u cu t : Nat) (Q : List (Nat × Nat)) : Prop where
  hs : s < n
  cur : Ent s cd u cu
  que : ∀ x ∈ Q, Ent s cd x.1 x.2 ∧ cu < x.2
  sorted : Q.Pairwise (fun x y => x.2 < y.2)
  all : ∀ v c, Ent s cd v c → c ≤ cu ∨ (v, c) ∈ Q
  old : ∀ v c, Ent s cd v c → c < cu → ∀ m, m < n → E v m = true → cd m ≠ 0 ∧ cd m ≤ c * (n + 1) + (m + 1)
  now : ∀ m, m < t → m < n → E u m = true → cd m ≠ 0 ∧ cd m ≤ cu * (n + 1) + (m + 1)
  high : ∀ v c, Ent s cd v c → c ≤ cu * (n + 1) + t
  from' : ∀ v, cd v ≠ 0 → v < n ∧ ∃ cb, cd v = cb * (n + 1) + (v + 1) ∧ E (bf v) v = true ∧ bf v < n ∧ (bf v = s → cb = s + 1) ∧ (bf v ≠ s → cb = cd (bf v) ∧ cb ≠ 0)
  least : ∀ v, cd v ≠ 0 → ∀ r, r ≠ [] → Wl E n s r v → cd v ≤ cod n (s + 1) r

theorem Bfs.first (E : Nat → Nat → Bool) (n s : Nat) (bf : Nat → Nat) (hs : s < n) : Bfs E n s (fun _ => 0) bf s (s + 1) 0 [] := by
  have he : ∀ v c, Ent s (fun _ => 0) v c → v = s ∧ c = s + 1 := by
    rintro v c (h | ⟨h1, h2⟩)
    · exact h
    · exact absurd h1.symm h2
  refine ⟨hs, .inl ⟨rfl, rfl⟩, fun x hx => (by cases hx), List.Pairwise.nil, fun v c h => .inl (by have := he v c h; omega), fun v c h hc => by have := he v c h; omega, fun m hm => by omega, fun v c h => ?_, fun v h => absurd rfl h, fun v h => absurd rfl h⟩
  obtain ⟨_, rfl⟩ := he v c h
  exact Nat.le_trans (Nat.le_mul_of_pos_right _ (by omega)) (Nat.le_add_right _ _)

theorem Bfs.code {E : Nat → Nat → Bool} {n s : Nat} {cd bf : Nat → Nat} {u cu t : Nat} {Q : List (Nat × Nat)} (h : Bfs E n s cd bf u cu t Q) {v c : Nat} (he : Ent s cd v c) : v < n ∧ ∃ X, c = X * (n + 1) + (v + 1) := by
  rcases he with ⟨rfl, rfl⟩ | ⟨h1, h2⟩
  · exact ⟨h.hs, 0, by omega⟩
  · obtain ⟨h3, cb, h4, _⟩ := h.from' v (by omega)
    exact ⟨h3, cb, by omega⟩
theorem Bfs.one {E : Nat → Nat → Bool} {n s : Nat} {cd bf : Nat → Nat} {u cu t : Nat} {Q : List (Nat × Nat)} (h : Bfs E n s cd bf u cu t Q) {v x c : Nat} (h1 : Ent s cd v c) (h2 : Ent s cd x c) : v = x := by
  obtain ⟨a1, X, a2⟩ := h.code h1
  obtain ⟨b1, Y, b2⟩ := h.code h2
  exact (mul_one_inj a1 b1 (a2.symm.trans b2)).2
/-- Walks below the one in hand are known. -/
theorem Bfs.below {E : Nat → Nat → Bool} {n s : Nat} {cd bf : Nat → Nat} {u cu t : Nat} {Q : List (Nat × Nat)} (h : Bfs E n s cd bf u cu t Q) (r : List Nat) : ∀ v, Wl E n s r v → cod n (s + 1) r < cu → ∃ c, Ent s cd v c ∧ c ≤ cod n (s + 1) r := by
  induction r using snocRec with
  | h0 => rintro v rfl _; exact ⟨s + 1, .inl ⟨rfl, rfl⟩, Nat.le_refl _⟩
  | h1 r x ih =>
    intro v hw hc
    obtain ⟨y, w1, w2, w3, rfl⟩ := Wl.snoc.1 hw
    rw [cod_snoc] at hc ⊢
    have hlt : cod n (s + 1) r < cu := by
      have := Nat.le_mul_of_pos_right (cod n (s + 1) r) (show 0 < n + 1 by omega)
      omega
    obtain ⟨c, e1, e2⟩ := ih y w1 hlt
    obtain ⟨k1, k2⟩ := h.old y c e1 (by omega) x w3 w2
    exact ⟨cd x, .inr ⟨rfl, k1⟩, Nat.le_trans k2 (by have := Nat.mul_le_mul_right (n + 1) e2; omega)⟩

/-- An end that was reached before. -/
theorem Bfs.skip {E : Nat → Nat → Bool} {n s : Nat} {cd bf : Nat → Nat} {u cu t : Nat} {Q : List (Nat × Nat)} (h : Bfs E n s cd bf u cu t Q) (m : Nat) (htm : t ≤ m) (hgap : ∀ k, t ≤ k → k < m → k < n → E u k = false) (hc : cd m ≠ 0) : Bfs E n s cd bf u cu (m + 1) Q := by
  refine { h with now := fun k hk hn he => ?_, high := fun v c e => by have := h.high v c e; omega }
  by_cases h1 : k < t
  · exact h.now k h1 hn he
  · by_cases h2 : k = m
    · subst h2
      refine ⟨hc, ?_⟩
      have := h.high k (cd k) (.inr ⟨rfl, hc⟩)
      omega
    · have := hgap k (by omega) (by omega) hn
      rw [this] at he
      cases he
/-- No end is left. -/
theorem Bfs.done {E : Nat → Nat → Bool} {n s : Nat} {cd bf : Nat → Nat} {u cu t : Nat} {Q : List (Nat × Nat)} (h : Bfs E n s cd bf u cu t Q) (ht : t ≤ n) (hgap : ∀ k, t ≤ k → k < n → E u k = false) : Bfs E n s cd bf u cu n Q := by
  refine { h with now := fun k hk hn he => ?_, high := fun v c e => by have := h.high v c e; omega }
  by_cases h1 : k < t
  · exact h.now k h1 hn he
  · rw [hgap k (by omega) hn] at he
    cases he
theorem Bfs.root {E : Nat → Nat → Bool} {n s : Nat} {cd bf : Nat → Nat} {u cu t : Nat} {Q : List (Nat × Nat)} (h : Bfs E n s cd bf u cu t Q) (m : Nat) (hm : m < n) (hE : E u m = true) (hc : cd m = 0) : (u = s → cu = s + 1) ∧ (u ≠ s → cu = cd u ∧ cu ≠ 0) := by
  rcases h.cur with ⟨rfl, rfl⟩ | ⟨h1, h2⟩
  · exact ⟨fun _ => rfl, fun c => absurd rfl c⟩
  · refine ⟨?_, fun _ => ⟨h1.symm, h2⟩⟩
    rintro rfl
    obtain ⟨_, cb, h4, _⟩ := h.from' u (by omega)
    have hlt : u + 1 < cu := by
      have hs := h.hs
      obtain ⟨h3, cb, h4, _, h5, h6, h7⟩ := h.from' u (by omega)
      have hcb : 1 ≤ cb := by
        by_cases e : bf u = u
        · have := h6 e; omega
        · have := (h7 e).2; omega
      have := Nat.mul_le_mul_right (n + 1) hcb
      omega
    exact absurd hc (h.old u (u + 1) (.inl ⟨rfl, rfl⟩) hlt m hm hE).1
/-- An end that is reached now. -/
theorem Bfs.reach {E : Nat → Nat → Bool} {n s : Nat} {cd bf : Nat → Nat} {u cu t : Nat} {Q : List (Nat × Nat)} (h : Bfs E n s cd bf u cu t Q) (m : Nat) (htm : t ≤ m) (hm : m < n) (hE : E u m = true) (hgap : ∀ k, t ≤ k → k < m → k < n → E u k = false) (hc : cd m = 0) :
    Bfs E n s (fun v => if v = m then cu * (n + 1) + (m + 1) else cd v) (fun v => if v = m then u else bf v) u cu (m + 1) (Q ++ [(m, cu * (n + 1) + (m + 1))]) := by
  have hroot := h.root m hm hE hc
  have hun : u < n := (h.code h.cur).1
  have hcu : cu < cu * (n + 1) + (m + 1) := by
    have := Nat.le_mul_of_pos_right cu (show 0 < n + 1 by omega)
    omega
  have hent : ∀ v c, Ent s (fun v => if v = m then cu * (n + 1) + (m + 1) else cd v) v c ↔ Ent s cd v c ∨ (v = m ∧ c = cu * (n + 1) + (m + 1)) := by
    intro v c
    unfold Ent
    by_cases e : v = m
    · subst e
      dsimp only
      rw [if_pos rfl]
      constructor
      · rintro (h1 | ⟨h1, h2⟩)
        · exact .inl (.inl h1)
        · exact .inr ⟨rfl, h1.symm⟩
      · rintro ((h1 | ⟨h1, h2⟩) | ⟨_, h1⟩)
        · exact .inl h1
        · omega
        · exact .inr ⟨h1.symm, by omega⟩
    · dsimp only
      rw [if_neg e]
      constructor
      · intro h1; exact .inl h1
      · rintro (h1 | ⟨h1, _⟩)
        · exact h1
        · exact absurd h1 e
  have hnew : ∀ v, cd v ≠ 0 → (if v = m then cu * (n + 1) + (m + 1) else cd v) = cd v := by
    intro v hv
    rw [if_neg (by rintro rfl; exact hv hc)]
  refine ⟨h.hs, (hent _ _).2 (.inl h.cur), fun x hx => ?_, ?_, fun v c e => ?_, fun v c e hlt k hk he => ?_, fun k hk hn he => ?_, fun v c e => ?_, fun v hv => ?_, fun v hv r hne hw => ?_⟩
  · rcases List.mem_append.1 hx with hx | hx
    · exact ⟨(hent _ _).2 (.inl (h.que x hx).1), (h.que x hx).2⟩
    · rw [List.mem_singleton] at hx
      subst hx
      exact ⟨(hent _ _).2 (.inr ⟨rfl, rfl⟩), hcu⟩
  · rw [List.pairwise_append]
    refine ⟨h.sorted, List.pairwise_singleton _ _, fun a ha b hb => ?_⟩
    rw [List.mem_singleton] at hb
    subst hb
    have := h.high a.1 a.2 (h.que a ha).1
    show a.2 < cu * (n + 1) + (m + 1)
    omega
  · rcases (hent _ _).1 e with e | ⟨rfl, rfl⟩
    · rcases h.all v c e with h1 | h1
      · exact .inl h1
      · exact .inr (List.mem_append_left _ h1)
    · exact .inr (by simp)
  · rcases (hent _ _).1 e with e | ⟨rfl, rfl⟩
    · obtain ⟨h1, h2⟩ := h.old v c e hlt k hk he
      have e2 := hnew k h1
      show (if k = m then cu * (n + 1) + (m + 1) else cd k) ≠ 0 ∧ (if k = m then cu * (n + 1) + (m + 1) else cd k) ≤ _
      rw [e2]
      exact ⟨h1, h2⟩
    · omega
  · show (if k = m then cu * (n + 1) + (m + 1) else cd k) ≠ 0 ∧ (if k = m then cu * (n + 1) + (m + 1) else cd k) ≤ _
    by_cases e : k = m
    · subst e
      rw [if_pos rfl]
      exact ⟨by omega, Nat.le_refl _⟩
    · rw [if_neg e]
      by_cases h1 : k < t
      · exact h.now k h1 hn he
      · rw [hgap k (by omega) (by omega) hn] at he
        cases he
  · rcases (hent _ _).1 e with e | ⟨rfl, rfl⟩
    · have := h.high v c e; omega
    · omega
  · by_cases e : v = m
    · subst e
      rw [if_pos rfl, if_pos rfl]
      refine ⟨hm, cu, rfl, hE, hun, hroot.1, fun hne => ?_⟩
      have h2 := hroot.2 hne
      refine ⟨?_, h2.2⟩
      rw [hnew u (by rw [← h2.1]; exact h2.2)]
      exact h2.1
    · rw [if_neg e, if_neg e]
      rw [if_neg e] at hv
      obtain ⟨h1, cb, h2, h3, h4, h5, h6⟩ := h.from' v hv
      refine ⟨h1, cb, h2, h3, h4, h5, fun hne => ?_⟩
      obtain ⟨h7, h8⟩ := h6 hne
      exact ⟨by rw [hnew _ (by rw [← h7]; exact h8)]; exact h7, h8⟩
  · by_cases e : v = m
    · subst e
      rw [if_pos rfl]
      rw [← List.dropLast_concat_getLast hne] at hw ⊢
      obtain ⟨y, w1, w2, w3, w4⟩ := Wl.snoc.1 hw
      rw [w4] at w2 ⊢
      rw [cod_snoc]
      by_cases hlt : cod n (s + 1) r.dropLast < cu
      · obtain ⟨c, e1, e2⟩ := h.below _ y w1 hlt
        exact absurd hc (h.old y c e1 (by omega) v hm w2).1
      · have := Nat.mul_le_mul_right (n + 1) (show cu ≤ cod n (s + 1) r.dropLast by omega)
        omega
    · rw [if_neg e] at hv ⊢
      exact h.least v hv r hne hw
/-- The next one in the queue. -/
theorem Bfs.next {E : Nat → Nat → Bool} {n s : Nat} {cd bf : Nat → Nat} {u cu : Nat} {v c : Nat} {Q : List (Nat × Nat)} (h : Bfs E n s cd bf u cu n ((v, c) :: Q)) : Bfs E n s cd bf v c 0 Q := by
  obtain ⟨h1, h2⟩ := h.que (v, c) (by simp)
  have hs := List.pairwise_cons.1 h.sorted
  simp only at h1 h2
  refine ⟨h.hs, h1, fun x hx => ⟨(h.que x (List.mem_cons_of_mem _ hx)).1, hs.1 x hx⟩, hs.2, fun x cx e => ?_, fun x cx e hlt m hm he => ?_, fun m hm => by omega, fun x cx e => ?_, h.from', h.least⟩
  · rcases h.all x cx e with k | k
    · exact .inl (by omega)
    · rcases List.mem_cons.1 k with k | k
      · cases k; exact .inl (Nat.le_refl _)
      · exact .inr k
  · rcases h.all x cx e with k | k
    · rcases Nat.lt_or_eq_of_le k with k | k
      · exact h.old x cx e k m hm he
      · subst k
        obtain rfl := h.one e h.cur
        exact h.now m hm hm he
    · rcases List.mem_cons.1 k with k | k
      · cases k; omega
      · have := hs.1 _ k
        simp only at this
        omega
  · have k1 := h.high x cx e
    have k2 := Nat.mul_le_mul_right (n + 1) (show cu + 1 ≤ c by omega)
    rw [Nat.add_mul, Nat.one_mul] at k2
    omega
/-- With nothing to come all that can be reached is. -/
theorem Bfs.whole {E : Nat → Nat → Bool} {n s : Nat} {cd bf : Nat → Nat} {u cu : Nat} (h : Bfs E n s cd bf u cu n []) (r : List Nat) : ∀ v, Wl E n s r v → (∃ c, Ent s cd v c) ∧ (r ≠ [] → cd v ≠ 0) := by
  induction r using snocRec with
  | h0 => rintro v rfl; exact ⟨⟨s + 1, .inl ⟨rfl, rfl⟩⟩, fun h => absurd rfl h⟩
  | h1 r x ih =>
    intro v hw
    obtain ⟨y, w1, w2, w3, rfl⟩ := Wl.snoc.1 hw
    obtain ⟨⟨c, e⟩, _⟩ := ih y w1
    have hcd : cd x ≠ 0 := by
      rcases h.all y c e with k | k
      · rcases Nat.lt_or_eq_of_le k with k | k
        · exact (h.old y c e k x w3 w2).1
        · subst k
          obtain rfl := h.one e h.cur
          exact (h.now x w3 w3 w2).1
      · cases k
    exact ⟨⟨cd x, .inr ⟨rfl, hcd⟩⟩, fun _ => hcd⟩
end Go.Proofs.YtdihbeffomibeaaGreatDoor
