/-
  A history's tokens: how many, how long; appendOp at any operation.
-/
import Derived.Test.YtlkmciegpmpbbaaDoorHApp1
import Derived.Test.YtlkmciegpmpbbaaDoorHApp2
import Derived.Test.YtlkmciegpmpbbaaDoorHApp3
import Derived.Test.YtlkmciegpmpbbaaDoorHApp4
import Derived.Test.YtlkmciegpmpbbaaDoorPrint1
namespace Go.Proofs.YtlkmciegpmpbbaaDoor
set_option linter.unusedVariables false
set_option linter.unusedSimpArgs false
open Go.RowKit

/-- appendOp at any operation that may be. -/
theorem appendOp_any (B : Nat) (o : MOp) (lv : Value) (v : Value) (l : List MTok) (w : World) (hk : 1 ≤ o.kind ∧ o.kind ≤ 4) (hB : B ≤ w.heap.size) (own : w.ownsRow B 38 4 v l.length (flat l)) (hroom : (l.length + o.list.length + 10) * 40 ≤ 140737488355328) (hl : IntsIn (fun b => b < B) w lv o.list) :
    Calls Tryd.prog 16 #[v, .agg #[.int .i64 o.kind, .string o.key, .int .i64 o.value, lv, .bool o.has, .bool o.nl]] w fun e w' => ∃ v', e = .returned v' ∧ w'.ownsRow B 38 4 v' (l ++ opT o).length (flat (l ++ opT o)) ∧ Below B w w' ∧ (∀ k, k < w.heap.size → some k ≠ v.ownBlock → w'.heap[k]? = w.heap[k]?) ∧ ∀ g, v'.ownBlock = some g → v.ownBlock = some g ∨ w.heap.size ≤ g := by
  obtain ⟨k, s, vl, il, hs, nl⟩ := o
  simp only [MOp.kind, MOp.key, MOp.value, MOp.list, MOp.has, MOp.nl] at *
  have h4 : k = 1 ∨ k = 2 ∨ k = 3 ∨ k = 4 := by omega
  rcases h4 with rfl | rfl | rfl | rfl
  · exact appendOp_1 B s vl il hs nl lv v l w hB own hroom hl
  · exact appendOp_2 B s vl il hs nl lv v l w hB own hroom hl
  · exact appendOp_3 B s vl il hs nl lv v l w hB own hroom hl
  · exact appendOp_4 B s vl il hs nl lv v l w hB own hroom hl

def toksOf (l : List MEv) : List MTok := l.flatMap evT

theorem opOk_list {o : MOp} (h : opOk o = true) : o.list.length ≤ 40 ∧ 1 ≤ o.kind ∧ o.kind ≤ 4 := by
  unfold opOk at h
  split at h
  · rename_i hk
    simp only [Bool.or_eq_true, beq_iff_eq] at hk
    simp only [Bool.and_eq_true, beq_iff_eq, len] at h
    refine ⟨?_, ?_, ?_⟩
    · omega
    · rcases hk with e | e <;> rw [e] <;> omega
    · rcases hk with e | e <;> rw [e] <;> omega
  · split at h
    · rename_i hk
      simp only [beq_iff_eq] at hk
      simp only [Bool.and_eq_true, beq_iff_eq, decide_eq_true_eq, len] at h
      refine ⟨?_, ?_, ?_⟩
      · omega
      · rw [hk]; omega
      · rw [hk]; omega
    · split at h
      · rename_i hk
        simp only [beq_iff_eq] at hk
        simp only [Bool.and_eq_true, beq_iff_eq, len] at h
        refine ⟨?_, ?_, ?_⟩
        · omega
        · rw [hk]; omega
        · rw [hk]; omega
      · cases h
theorem midT_len (o : MOp) : (midT o).length ≤ o.list.length + 2 := by
  unfold midT
  split
  · simp
  · split
    · simp
    · split
      · simp
      · split <;> simp
theorem opT_len (o : MOp) : (opT o).length ≤ o.list.length + 6 := by
  have := midT_len o
  unfold opT
  simp only [List.length_append, List.length_cons, List.length_nil]
  omega
theorem ops_len : ∀ (xs : List MOp), (∀ o ∈ xs, o.list.length ≤ 40) → (xs.flatMap opT).length ≤ xs.length * 46
  | [], _ => by simp
  | o :: xs, h => by
    have h1 := opT_len o
    have h2 := h o (by simp)
    have h3 := ops_len xs (fun x hx => h x (by simp [hx]))
    rw [List.flatMap_cons, List.length_append, List.length_cons]
    omega
theorem ev_parts {e : MEv} (h : evOk e = true) : evHead e ∧ ∀ o ∈ e.ops, keyOk o.key = true ∧ opOk o = true := by
  unfold evOk at h
  simp only [Bool.and_eq_true, decide_eq_true_eq, List.all_eq_true, opKey] at h
  exact ⟨h.1, h.2⟩
theorem evT_len {e : MEv} (h : evOk e = true) : (evT e).length ≤ 371 := by
  obtain ⟨h1, h2⟩ := ev_parts h
  have h3 := ops_len e.ops (fun o ho => (opOk_list (h2 o ho).2).1)
  have h8 := h1.2.2.2.2.2
  unfold evT
  simp only [List.length_append, List.length_cons, List.length_nil]
  omega
theorem toks_len : ∀ (l : List MEv), (∀ e ∈ l, evOk e = true) → (toksOf l).length ≤ l.length * 371
  | [], _ => by simp [toksOf]
  | e :: l, h => by
    have h1 := evT_len (h e (by simp))
    have h2 := toks_len l (fun x hx => h x (by simp [hx]))
    unfold toksOf at h2 ⊢
    rw [List.flatMap_cons, List.length_append, List.length_cons]
    omega
theorem can_parts {l : List MEv} (h : canM l = true) : l.length ≤ 300 ∧ ∀ e ∈ l, evOk e = true := by
  unfold canM at h
  simp only [Bool.and_eq_true, decide_eq_true_eq, List.all_eq_true] at h
  exact h

/-- Values are ints. -/
def inI (n : Int) : Prop := -9223372036854775808 ≤ n ∧ n ≤ 9223372036854775807
def ValsFit (l : List MEv) : Prop := ∀ e ∈ l, ∀ o ∈ e.ops, inI o.value ∧ ∀ x ∈ o.list, inI x
/-- A token that is not long. -/
def Short (t : MTok) : Prop := (tx t).length ≤ 6 ∧ (t.1 = 2 → inI t.2.2.2)
theorem short_word {s : ByteArray} (h : s.size ≤ 6) : Short (wordT s) := ⟨by show s.data.toList.length ≤ 6; rw [Array.length_toList]; exact h, fun e => by cases e⟩
theorem short_mark (b : UInt8) : Short (markT b) := ⟨by show ([b] : List UInt8).length ≤ 6; simp, fun e => by cases e⟩
theorem short_num {n : Int} (h : inI n) : Short (numT n) := ⟨by show ([] : List UInt8).length ≤ 6; simp, fun _ => h⟩
theorem key_size {s : ByteArray} (h : keyOk s = true) : s.size ≤ 6 := by
  unfold keyOk at h
  simp only [Bool.and_eq_true, decide_eq_true_eq] at h
  exact h.2
theorem opWord_size (k : Int) : (opWord k).size ≤ 6 := by
  unfold opWord; split
  · decide
  · split
    · decide
    · split <;> decide
theorem evWord_size (k : Int) : (evWord k).size ≤ 6 := by
  unfold evWord; split
  · decide
  · split
    · decide
    · split <;> decide
theorem op_short {o : MOp} (h1 : keyOk o.key = true) (h2 : inI o.value) (h3 : ∀ x ∈ o.list, inI x) : ∀ t ∈ opT o, Short t := by
  intro t ht
  unfold opT at ht
  simp only [List.mem_append, List.mem_cons, List.not_mem_nil, or_false] at ht
  rcases ht with ((rfl | rfl | rfl) | hm) | rfl
  · exact short_mark _
  · exact short_word (opWord_size _)
  · exact short_word (key_size h1)
  · unfold midT at hm
    split at hm
    · rw [List.mem_singleton.1 hm]; exact short_num h2
    · split at hm
      · exact (List.not_mem_nil hm).elim
      · split at hm
        · simp only [List.mem_append, List.mem_singleton, List.mem_map] at hm
          rcases hm with (rfl | ⟨x, hx, rfl⟩) | rfl
          · exact short_mark _
          · exact short_num (h3 x hx)
          · exact short_mark _
        · split at hm
          · rw [List.mem_singleton.1 hm]; exact short_word (by decide)
          · rw [List.mem_singleton.1 hm]; exact short_num h2
  · exact short_mark _
theorem toks_short {l : List MEv} (hc : ∀ e ∈ l, evOk e = true) (hv : ValsFit l) : ∀ t ∈ toksOf l, Short t := by
  intro t ht
  unfold toksOf at ht
  obtain ⟨e, he, ht⟩ := List.mem_flatMap.1 ht
  obtain ⟨hh, ho⟩ := ev_parts (hc e he)
  unfold evT at ht
  simp only [List.mem_append, List.mem_cons, List.not_mem_nil, or_false, List.mem_flatMap] at ht
  rcases ht with ((rfl | rfl) | ⟨o, hm, ht⟩) | rfl
  · exact short_word (evWord_size _)
  · exact short_num ⟨by have := hh.2.2.1; omega, by have := hh.2.2.2.1; omega⟩
  · exact op_short (ho o hm).1 (hv e he o hm).1 (hv e he o hm).2 t ht
  · exact ⟨by show ([] : List UInt8).length ≤ 6; simp, fun e => by cases e⟩
theorem print_short : ∀ (l : List MTok) (il : Bool), (∀ t ∈ l, Short t) → (printL il l).length ≤ l.length * 30
  | [], _, _ => by simp [printL]
  | t :: l, il, h => by
    have hw := h t (by simp)
    have hl : ∀ x ∈ l, Short x := fun x hx => h x (by simp [hx])
    have i1 := print_short l true hl
    have i2 := print_short l false hl
    have i3 := print_short l il hl
    have hs : (sep il).length ≤ 1 := by cases il <;> decide
    have htx := hw.1
    rw [List.length_cons, printL]
    split
    · rw [List.length_append, List.length_append]; omega
    · split
      · rename_i e2
        have hr := hw.2 e2
        have hd : (decimal t.2.2.2).length ≤ 21 := by
          unfold inI at hr
          unfold decimal
          split
          · have := (dec_len (v := t.2.2.2.toNat) (by omega)).2; omega
          · have := (dec_len (v := (-t.2.2.2).toNat) (by omega)).2; simp; omega
        rw [List.length_append, List.length_append]; omega
      · split
        · rw [List.length_cons]; omega
        · omega

theorem flat_get (l : List MTok) (j i : Nat) (hj : j < l.length) (hi : i < 4) : (flat l)[j * 4 + i]? = (tcells (l.getD j default))[i]? := by
  unfold flat
  rw [flatten_get 4 _ j i (by intro r hr; obtain ⟨t, _, rfl⟩ := List.mem_map.1 hr; rfl) (by simpa using hj) hi]
  simp [List.getD, List.getElem?_eq_getElem hj]
/-- A row of one's own is a list in memory. -/
theorem own_toks {B : Nat} {w : World} {v : Value} {l : List MTok} (h : w.ownsRow B 38 4 v l.length (flat l)) (hb : l.length * 40 ≤ 140737488355328) : ToksIn (fun b => B ≤ b) w v l := by
  rcases h.2 with ⟨hv, hn⟩ | ⟨g, cap, cur, hv, hg, _⟩
  · exact ⟨none, 0, by rw [hv, hn], hb, fun h => by omega⟩
  · refine ⟨some ⟨g, 0, none⟩, cap, hv, hb, fun _ => ⟨g, 0, rfl, hg, fun j hj => ⟨tcells (l.getD j default), rfl, rfl, fun i u hi => ?_⟩⟩⟩
    have hil : i < 4 := (List.getElem?_eq_some_iff.1 hi).1
    have := h.cells (g := g) (by rw [hv]; rfl) (j * 4 + i) u (by rw [flat_get l j i hj hil]; exact hi)
    rw [Addr.add_lit] at this
    simpa [Nat.add_assoc] using this

theorem take_flat {α β : Type} [Inhabited α] (f : α → List β) {l : List α} {k : Nat} (h : k < l.length) : (l.take (k + 1)).flatMap f = (l.take k).flatMap f ++ f (l.getD k default) := by
  have e : l.getD k default = l[k] := by simp [List.getD, List.getElem?_eq_getElem h]
  rw [List.take_succ_eq_append_getElem h, e, List.flatMap_append]
  simp
theorem ix_ev {k : Int} (h : 1 ≤ k ∧ k ≤ 4) (w : World) : Sem.run Tryd.prog (Instr.index 40 (.agg #[.string ⟨#[]⟩, .string ⟨#[105, 110, 118, 111, 107, 101]⟩, .string ⟨#[111, 107]⟩, .string ⟨#[102, 97, 105, 108]⟩, .string ⟨#[105, 110, 102, 111]⟩]) (.int .i64 k)) w = .ok (.string (evWord k)) w := by
  have h4 : k = 1 ∨ k = 2 ∨ k = 3 ∨ k = 4 := by omega
  rcases h4 with rfl | rfl | rfl | rfl
  · exact ix1 w _ _ _ _ _
  · exact ix2 w _ _ _ _ _
  · exact ix3 w _ _ _ _ _
  · exact ix4 w _ _ _ _ _
theorem r2 {n N : Nat} (h : n ≤ N) (hN : N ≤ 200000) : n + 2 ≤ 1000000 := by omega
theorem r_line {n : Nat} (h : n ≤ 200000) : n + 1 ≤ 1000000 := by omega
theorem r_op {n m : Nat} (h : n ≤ 200000) (hm : m ≤ 40) : (n + m + 10) * 40 ≤ 140737488355328 := by omega
theorem mil : 1000000 * 40 ≤ 140737488355328 := by omega

end Go.Proofs.YtlkmciegpmpbbaaDoor
