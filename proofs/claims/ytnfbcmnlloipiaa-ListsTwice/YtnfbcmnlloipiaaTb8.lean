/-
  What TableUnique's walk is made of.
-/
import Derived.Test.YtnfbcmnlloipiaaTb7
namespace Go.Proofs.Ytnfbcmnlloipiaa
set_option linter.unusedVariables false
set_option linter.unusedSimpArgs false
open Go.RowKit Go.Lib Go.Maps Go.Sort
open Tx (MTxn info_parts flatten_len flatten_get RowsIn.cells RowCells TxnRow TxnsIn TxnsOwn setCell_self cloneInts_any OpsOwn smallL cutTxn cutOp)

theorem u64_mod (n : Int) (m : Nat) (hm : 0 < m) (hm2 : m ≤ 4294967296) : ∃ N : Nat, N < m ∧ wrap64 ((IntKind.u64.wrap n).tmod m) = N := by
  rw [IntKind.wrap_u64]
  have h0 : 0 ≤ n % 18446744073709551616 := Int.emod_nonneg _ (by decide)
  rw [Int.tmod_eq_emod_of_nonneg h0]
  have h1 := Int.emod_nonneg (n % 18446744073709551616) (show (m : Int) ≠ 0 by omega)
  have h2 := Int.emod_lt_of_pos (n % 18446744073709551616) (show (0 : Int) < m by omega)
  refine ⟨(n % 18446744073709551616 % m).toNat, by omega, ?_⟩
  unfold wrap64
  omega
theorem txns_ins {B : Nat} {w : World} {v : Value} {l : List MTxn} (h : TxnsOwn B w v l) : TxnsIn Any w v l := by
  obtain ⟨ao, c, hv, hl, hc⟩ := h
  refine ⟨ao, c, hv, hl, fun h0 => ?_⟩
  obtain ⟨b, D, rfl, hT⟩ := hc h0
  refine ⟨b, 0, rfl, trivial, fun j hj => ?_⟩
  obtain ⟨ov, h1, h2⟩ := hT.row j hj
  refine ⟨_, rfl, ⟨ov, rfl, h2.ops.keep (fun _ _ _ => rfl) (fun _ _ _ => trivial)⟩, fun i u hi => ?_⟩
  have := h1 i u hi
  simpa using this
theorem small_len (l : List MTxn) : (smallL l).length ≤ 40 := by
  unfold smallL
  rw [List.length_map, List.length_take]
  omega
theorem small_mem {l : List MTxn} {t : MTxn} (h : t ∈ smallL l) : ∃ t0 ∈ l, t = cutTxn t0 := by
  unfold smallL at h
  obtain ⟨t0, h1, h2⟩ := List.mem_map.1 h
  exact ⟨t0, List.mem_of_mem_take h1, h2.symm⟩
theorem small_ten {l : List MTxn} {t : MTxn} (h : t ∈ smallL l) : t.ops.length ≤ 10 := by
  obtain ⟨t0, _, rfl⟩ := small_mem h
  show ((t0.ops.take 10).map cutOp).length ≤ 10
  rw [List.length_map, List.length_take]
  omega
theorem small_ok {l : List MTxn} (hl : ∀ t ∈ l, ∀ o ∈ t.ops, OpOk o) {t : MTxn} (h : t ∈ smallL l) : ∀ o ∈ t.ops, OpOk o := by
  obtain ⟨t0, h0, rfl⟩ := small_mem h
  intro o ho
  have ho' : o ∈ (t0.ops.take 10).map cutOp := ho
  obtain ⟨o0, h1, rfl⟩ := List.mem_map.1 ho'
  exact hl t0 h0 o0 (List.mem_of_mem_take h1)

theorem getD_at {α : Type} [Inhabited α] (l : List α) (j : Nat) (h : j < l.length) : l.getD j default = l[j] := by simp [List.getD, List.getElem?_eq_getElem h]
theorem getD_mem {α : Type} [Inhabited α] (l : List α) (j : Nat) (h : j < l.length) : l.getD j default ∈ l := by rw [getD_at l j h]; exact List.getElem_mem h
/-! Twice the same transaction. -/
theorem notes_left (l m : List MTxn) : ∀ k, k ≤ l.length → notes (l ++ m) k = notes l k
  | 0, _ => rfl
  | k + 1, h => by
    rw [notes, notes, notes_left l m k (by omega)]
    have e : (l ++ m).getD k default = l.getD k default := by simp [List.getD, List.getElem?_append_left (show k < l.length by omega)]
    rw [e]
theorem notes_twice (l : List MTxn) (x : MTxn) : notes (l ++ [x]) (l ++ [x]).length = notes l l.length ++ notesT l.length x.ops := by
  rw [List.length_append, List.length_singleton, notes, notes_left l [x] l.length (Nat.le_refl _)]
  have e : (l ++ [x]).getD l.length default = x := by simp [List.getD]
  rw [e]
theorem writers_append (N M : List MN) (s : ByteArray) (v : Int) : writersN (N ++ M) s v = writersN N s v ++ writersN M s v := by
  unfold writersN
  rw [List.filter_append, List.map_append]
theorem writers_pos {N : List MN} {x : MN} (h : x ∈ N) (hw : isW x.2.2.kind = true) : 0 < (writersN N x.2.2.key x.2.2.value).length := by
  unfold writersN
  rw [List.length_map]
  exact List.length_pos_of_mem (List.mem_filter.2 ⟨h, by simp [hitW, hw]⟩)
theorem twice_uniq (l : List MTxn) (i : Nat) (hi : i < l.length) : uniqN (notes (l ++ [l.getD i default]) (l ++ [l.getD i default]).length) ↔ ((l.getD i default).ops.any (fun o => isW o.kind) = false ∧ uniqN (notes l l.length)) := by
  rw [notes_twice]
  constructor
  · intro h
    refine ⟨?_, fun s v => ?_⟩
    · rw [← Bool.not_eq_true]
      intro hc
      obtain ⟨o, ho, hw⟩ := List.any_eq_true.1 hc
      obtain ⟨j, hj, e⟩ := List.mem_iff_getElem.1 ho
      have ej : (l.getD i default).ops.getD j default = o := (getD_at _ j hj).trans e
      have h1 := notes_mem l i j hj l.length hi
      have h2 : (l.length, j, (l.getD i default).ops.getD j default) ∈ notesT l.length (l.getD i default).ops := List.mem_map.2 ⟨j, by simpa using hj, rfl⟩
      rw [ej] at h1 h2
      have p1 := writers_pos h1 hw
      have p2 := writers_pos h2 hw
      have := h o.key o.value
      rw [writers_append, List.length_append] at this
      have q1 : 0 < (writersN (notes l l.length) o.key o.value).length := p1
      have q2 : 0 < (writersN (notesT l.length (l.getD i default).ops) o.key o.value).length := p2
      omega
    · have := h s v
      rw [writers_append, List.length_append] at this
      omega
  · rintro ⟨h1, h2⟩ s v
    rw [writers_append]
    have e : writersN (notesT l.length (l.getD i default).ops) s v = [] := by
      unfold writersN
      rw [List.map_eq_nil_iff, List.filter_eq_nil_iff]
      intro x hx
      obtain ⟨j, hj, rfl⟩ := List.mem_map.1 hx
      have hj2 : j < (l.getD i default).ops.length := by simpa using hj
      have hm : (l.getD i default).ops.getD j default ∈ (l.getD i default).ops := getD_mem _ j hj2
      have : isW ((l.getD i default).ops.getD j default).kind = false := by
        cases hc : isW ((l.getD i default).ops.getD j default).kind with
        | false => rfl
        | true =>
          have h3 : (l.getD i default).ops.any (fun o => isW o.kind) = true := List.any_eq_true.2 ⟨_, hm, hc⟩
          rw [h1] at h3
          cases h3
      show ¬ hitW s v (l.length, j, (l.getD i default).ops.getD j default) = true
      unfold hitW
      rw [show isW (l.length, j, (l.getD i default).ops.getD j default).2.2.kind = false from this]
      simp
    rw [e, List.append_nil]
    exact h2 s v
theorem any_take (T : List MOp) (j : Nat) (h : j < T.length) : (T.take (j + 1)).any (fun o => isW o.kind) = ((T.take j).any (fun o => isW o.kind) || isW (T.getD j default).kind) := by
  rw [List.take_succ_eq_append_getElem h, List.any_append]
  simp [List.getD, List.getElem?_eq_getElem h]
/-! Does a transaction write. -/
theorem tu1_is (o : MOp) (a : Option Addr) (c : Nat) (w : World) : Calls Try.prog 28 #[opV o a c] w fun e w' => e = .returned (.bool (isW o.kind)) ∧ Below w.heap.size w w' := by
  have BB : ∀ x, Hid (Below w.heap.size w (w.alloc x)) := fun x => below_box w x
  obtain ⟨k, s, v, l, p, q⟩ := o
  simp only [MOp.kind, MOp.key, MOp.value, MOp.list, MOp.has, MOp.nl, opV] at *
  by_cases h1 : k = 1
  · subst h1
    go_enter Try.func28, Try.ntmps28
    go_wp2_with fail
    go_ret
    exact ⟨rfl, (BB _).out⟩
  · by_cases h3 : k = 3
    · subst h3
      go_enter Try.func28, Try.ntmps28
      go_wp2_with fail
      go_ret
      exact ⟨rfl, (BB _).out⟩
    · have b1 : (k == 1) = false := by simpa using h1
      have b3 : (k == 3) = false := by simpa using h3
      have e : Hid (isW k = false) := by show isW k = false; simp [isW, h1, h3]
      go_enter Try.func28, Try.ntmps28
      go_wp2_with fail
      go_ret
      exact ⟨by rw [e.out]; rfl, (BB _).out⟩
set_option maxHeartbeats 4000000 in
set_option maxRecDepth 100000 in
theorem idxFO_is {S : Nat → Prop} (w : World) (v : Value) (T : List MOp) (h : OpsIn S w v T) (hT : T.length ≤ 1000) :
    Calls Try.prog 53 #[v, .func (.func 28) #[] #[]] w fun e w' => ∃ n : Int, e = .returned (.int .i64 n) ∧ ((0 ≤ n) ↔ T.any (fun o => isW o.kind) = true) ∧ Below w.heap.size w w' := by
  obtain ⟨a1, c1, rfl, l1, k1⟩ := RowsIn.cells h (by omega)
  have HC := hid k1
  have hTi : (T.length : Int) ≤ 1000 := by omega
  clear h k1
  go_enter Try.func53, Try.ntmps53
  go_wp2_with fail
  go_loopg [5, 8] T.length (fun gg _ i wr => ∃ j : Nat, j ≤ T.length ∧ T.length - j ≤ gg ∧ i = .int .i64 j ∧ Aside (Below w.heap.size w wr) ∧ Aside ((T.take j).any (fun o => isW o.kind) = false))
  case atStart => exact ⟨0, Nat.zero_le _, by omega, rfl, Below.refl _ _, rfl⟩
  case round =>
    obtain ⟨j, hj, hgj, rfl, BJ, AJ⟩ := hrel
    by_cases hjl : j < T.length
    · have hjli : (j : Int) < T.length := by omega
      obtain ⟨ob, oo, cs, rfl, hobl, _, ⟨lv, hcse, hli2⟩, hcell⟩ := HC.out j hjl
      subst hcse
      obtain ⟨la, lc, rfl, _⟩ := id hli2
      have x0 := (BJ.out.cell (p := ⟨ob, oo + j * 6 + 0, none⟩) hobl).trans (hcell 0 _ rfl)
      have x1 := (BJ.out.cell (p := ⟨ob, oo + j * 6 + 1, none⟩) hobl).trans (hcell 1 _ rfl)
      have x2 := (BJ.out.cell (p := ⟨ob, oo + j * 6 + 2, none⟩) hobl).trans (hcell 2 _ rfl)
      have x3 := (BJ.out.cell (p := ⟨ob, oo + j * 6 + 3, none⟩) hobl).trans (hcell 3 _ rfl)
      have x4 := (BJ.out.cell (p := ⟨ob, oo + j * 6 + 4, none⟩) hobl).trans (hcell 4 _ rfl)
      have x5 := (BJ.out.cell (p := ⟨ob, oo + j * 6 + 5, none⟩) hobl).trans (hcell 5 _ rfl)
      rw [Nat.add_zero] at x0
      have HTK : Hid ((T.take (j + 1)).any (fun o => isW o.kind) = ((T.take j).any (fun o => isW o.kind) || isW (T.getD j default).kind)) := any_take T j hjl
      have HMM : Hid (isW (T.getD j default).kind = true → T.any (fun o => isW o.kind) = true) := fun h => List.any_eq_true.2 ⟨_, by simp [List.getD, List.getElem?_eq_getElem hjl], h⟩
      clear hcell hli2
      generalize T.getD j default = O at *
      obtain ⟨ok, os, ovv, ol, oh, on⟩ := O
      simp only [MOp.kind, MOp.key, MOp.value, MOp.list, MOp.has, MOp.nl] at x0 x1 x2 x3 x4 x5 HTK HMM
      have RW := hid (fun W => tu1_is (ok, os, ovv, ol, oh, on) la lc W)
      simp only [opV, MOp.kind, MOp.key, MOp.value, MOp.list, MOp.has, MOp.nl] at RW
      cases hw : isW ok with
      | false =>
        rw [hw] at RW
        have A2 : Hid ((T.take (j + 1)).any (fun o => isW o.kind) = false) := by
          show _ = _
          rw [HTK.out, hw, AJ.out]
          rfl
        clear hw HTK HMM
        go_wp2_with (go_at_call 28; refine (RW.out _).mono ?_; rintro e w2 ⟨rfl, b2⟩; have B2 : Hid (Below w.heap.size w w2) := BJ.out.trans (b2.mono BJ.out.size); clear b2)
        go_roundg (T.length - (j + 1))
        case measure => omega
        case rel => exact ⟨j + 1, by omega, by omega, by go_num, B2.out, A2.out⟩
      | true =>
        rw [hw] at RW
        have HA := hid (HMM.out hw)
        clear hw HTK HMM
        go_wp2_with (go_at_call 28; refine (RW.out _).mono ?_; rintro e w2 ⟨rfl, b2⟩; have B2 : Hid (Below w.heap.size w w2) := BJ.out.trans (b2.mono BJ.out.size); clear b2)
        go_ret
        exact ⟨j, rfl, ⟨fun _ => HA.out, fun _ => by omega⟩, B2.out⟩
    · have hje : j = T.length := by omega
      have AE : Hid (T.any (fun o => isW o.kind) = false) := by rw [hje, List.take_of_length_le (Nat.le_refl _)] at AJ; exact AJ.out
      clear hje
      go_wp2_with fail
      go_ret
      exact ⟨-1, rfl, ⟨fun c => absurd c (by decide), fun c => absurd (c.symm.trans AE.out) (by decide)⟩, BJ.out⟩
theorem contFO_is {S : Nat → Prop} (w : World) (v : Value) (T : List MOp) (h : OpsIn S w v T) (hT : T.length ≤ 1000) :
    Calls Try.prog 27 #[v, .func (.func 28) #[] #[]] w fun e w' => e = .returned (.bool (T.any (fun o => isW o.kind))) ∧ Below w.heap.size w w' := by
  have HI := hid (fun W (hb : Below w.heap.size w W) => idxFO_is W v T (h.keep (keeps_below hb) (fun _ _ x => x)) hT)
  clear h
  cases ha : T.any (fun o => isW o.kind) with
  | false =>
    go_enter Try.func27, Try.ntmps27
    go_wp2_with (go_at_call 53; refine (HI.out _ (Below.refl _ _)).mono ?_; rintro e w2 ⟨n, rfl, hn, b2⟩; have hlt : n < 0 := (by have hc : ¬ 0 ≤ n := fun c => absurd (ha.symm.trans (hn.1 c)) (by decide); omega); have hd : decide (0 ≤ n) = false := (by simp; omega); have B2 := hid b2; clear hn b2)
    go_ret
    exact ⟨rfl, B2.out⟩
  | true =>
    go_enter Try.func27, Try.ntmps27
    go_wp2_with (go_at_call 53; refine (HI.out _ (Below.refl _ _)).mono ?_; rintro e w2 ⟨n, rfl, hn, b2⟩; have hlt : 0 ≤ n := hn.2 ha; have hd : decide (0 ≤ n) = true := (by simpa using hlt); have B2 := hid b2; clear hn b2)
    go_ret
    exact ⟨rfl, B2.out⟩
end Go.Proofs.Ytnfbcmnlloipiaa
