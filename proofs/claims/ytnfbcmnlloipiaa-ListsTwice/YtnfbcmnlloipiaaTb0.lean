/-
  What a table knows of transactions, plain; its three maps in memory.
-/
import Derived.Test.YtnfbcmnlloipiaaT5
import Derived.Test.YtnfbcmnlloipiaaMv
import Derived.Test.YtnfbcmnlloipiaaMc
import Derived.DeepKeys5
import Derived.WideKeyEntry
import Derived.Lib.SliceRun
import Derived.Lib.Walk
import Derived.Deep.AppendLies
import Derived.Deep.RegionHeld3
import Derived.Deep.Cut
import Derived.Deep.RegionLaw
import Derived.Deep.RegionWith
import Derived.Deep.DrawnRows
import Derived.Deep.QuietTactic
import Derived.BigQuiet
import Derived.Lib.SmallJoins
import Derived.WalkSpells
import Derived.Outline
namespace Go.Proofs.Ytnfbcmnlloipiaa
set_option linter.unusedVariables false
set_option linter.unusedSimpArgs false
open Go.RowKit Go.Lib Go.Maps Go.ChangeMaps Go.MapKept Go.WideElems
open Tx (MTxn)

theorem below_box (w : World) (o : Obj) : Below w.heap.size w (w.alloc o) := (Below.refl _ _).alloc (Nat.le_refl _) _
theorem blt {w : World} {b : Nat} {o : Obj} (h : w.heap[b]? = some o) : b < w.heap.size := (Array.getElem?_eq_some_iff.1 h).1
/-- Blocks outside P stay. -/
structure Gro (P : Nat → Prop) (w w' : World) : Prop where
  os : w'.os = w.os
  tape : w'.tape = w.tape
  output : w'.output = w.output
  size : w.heap.size ≤ w'.heap.size
  block : ∀ b, b < w.heap.size → ¬ P b → w'.heap[b]? = w.heap[b]?
theorem Gro.refl (P : Nat → Prop) (w : World) : Gro P w w := ⟨rfl, rfl, rfl, Nat.le_refl _, fun _ _ _ => rfl⟩
/-- P, and all blocks that were laid since. -/
def wide (P : Nat → Prop) (w w' : World) (b : Nat) : Prop := P b ∨ (w.heap.size ≤ b ∧ b < w'.heap.size)
theorem Gro.trans {P : Nat → Prop} {a b c : World} (h : Gro P a b) (k : Gro (wide P a b) b c) : Gro P a c :=
  ⟨k.os.trans h.os, k.tape.trans h.tape, k.output.trans h.output, Nat.le_trans h.size k.size, fun i hi hn => (k.block i (Nat.lt_of_lt_of_le hi h.size) (fun c => by
    rcases c with c | c
    · exact hn c
    · omega)).trans (h.block i hi hn)⟩
theorem Gro.of_below {P : Nat → Prop} {a b : World} (h : Below a.heap.size a b) : Gro P a b := ⟨h.os, h.tape, h.output, h.size, fun i hi _ => h.block i hi⟩
theorem Gro.of_grown {P : Nat → Prop} {a b : World} {r : Nat} (h : a.grownBy b (some r)) (hr : P r) : Gro P a b := ⟨h.os, h.tape, h.output, h.size, fun i hi hn => h.block i hi (fun e => by
  injection e with e
  exact hn (e ▸ hr))⟩
theorem Gro.of_grownO {P : Nat → Prop} {a b : World} {r : Option Nat} (h : a.grownBy b r) (hr : ∀ g, r = some g → P g) : Gro P a b := ⟨h.os, h.tape, h.output, h.size, fun i hi hn => h.block i hi (fun e => hn (hr i e.symm))⟩
theorem Gro.mono {P P' : Nat → Prop} {a b : World} (h : Gro P a b) (hp : ∀ i, i < a.heap.size → P i → P' i) : Gro P' a b := ⟨h.os, h.tape, h.output, h.size, fun i hi hn => h.block i hi (fun c => hn (hp i hi c))⟩
theorem Gro.below {P : Nat → Prop} {a b : World} {B : Nat} (h : Gro P a b) (hB : B ≤ a.heap.size) (hp : ∀ i, i < B → ¬ P i) : Below B a b := ⟨h.os, h.tape, h.output, h.size, fun i hi => h.block i (by omega) (hp i hi)⟩

theorem own_same {B : Nat} {w w' : World} {e : TypeId} {z n : Nat} {v : Value} {xs : List Value} (h : w.ownsRow B e z v n xs) (hs : ∀ g, v.ownBlock = some g → w'.heap[g]? = w.heap[g]?) : w'.ownsRow B e z v n xs := by
  refine ⟨h.1, ?_⟩
  rcases h.2 with h1 | ⟨g, cap, cur, hv, hg, hh, hr⟩
  · exact .inl h1
  · exact .inr ⟨g, cap, cur, hv, hg, (hs g (by rw [hv]; rfl)).trans hh, hr⟩
theorem own_slice {B : Nat} {w : World} {e : TypeId} {z n : Nat} {v : Value} {xs : List Value} (h : w.ownsRow B e z v n xs) : ∃ a c, v = .slice a n c := by
  rcases h.2 with ⟨hv, hn⟩ | ⟨g, cap, cur, hv, _⟩
  · exact ⟨none, 0, by rw [hv, hn]⟩
  · exact ⟨_, cap, hv⟩
theorem own_block {B : Nat} {w : World} {e : TypeId} {z n g : Nat} {v : Value} {xs : List Value} (h : w.ownsRow B e z v n xs) (hg : v.ownBlock = some g) : B ≤ g ∧ g < w.heap.size ∧ ∃ cs, w.heap[g]? = some (.cells cs e) := by
  rcases h.2 with ⟨hv, hn⟩ | ⟨g', cap, cur, hv, hB, hh, hr⟩
  · rw [hv] at hg
    cases hg
  · rw [hv] at hg
    have : g' = g := by simpa [Value.ownBlock] using hg
    subst this
    exact ⟨hB, blt hh, _, hh⟩
theorem alloc_at (w : World) (o : Obj) (b : Nat) : (w.alloc o).heap[b]? = if b = w.heap.size then some o else w.heap[b]? := by
  show (w.heap.push o)[b]? = _
  rw [Array.getElem?_push]
theorem alloc_size (w : World) (o : Obj) : (w.alloc o).heap.size = w.heap.size + 1 := by
  show (w.heap.push o).size = _
  rw [Array.size_push]
theorem set_ne {w : World} {p : Addr} {v : Value} {g : Nat} (h : g ≠ p.block) : (w.setCell p v).heap[g]? = w.heap[g]? := by
  unfold World.setCell
  simp [Array.getElem?_modify]
  intro c
  exact absurd c.symm h

/-! Plain. -/
/-- What an operation is of: 1 of a list, 3 of a register, 0 of nothing. -/
def thing (k : Int) : Int := if k = 1 ∨ k = 2 then 1 else if k = 3 ∨ k = 4 then 3 else 0
def isW (k : Int) : Bool := k == 1 || k == 3
theorem isW_thing {k : Int} (h : isW k = true) : thing k ≠ 0 := by
  unfold isW at h
  unfold thing
  simp only [Bool.or_eq_true, beq_iff_eq] at h
  rcases h with rfl | rfl <;> decide
/-- An operation, with its transaction and its place in it. -/
abbrev MN := Nat × Nat × MOp
/-- A key's kind. -/
def kindN (N : List MN) (s : ByteArray) : Int := ((N.find? (fun x => decide (x.2.2.key = s ∧ thing x.2.2.kind ≠ 0))).map (fun x => thing x.2.2.kind)).getD 0
theorem kind_snoc (N : List MN) (x : MN) (s : ByteArray) : kindN (N ++ [x]) s = if kindN N s = 0 then (if x.2.2.key = s then thing x.2.2.kind else 0) else kindN N s := by
  unfold kindN
  rw [List.find?_append]
  cases h : N.find? (fun x => decide (x.2.2.key = s ∧ thing x.2.2.kind ≠ 0)) with
  | none =>
    by_cases h1 : x.2.2.key = s
    · by_cases h2 : thing x.2.2.kind = 0 <;> simp [List.find?_cons, h1, h2]
    · simp [List.find?_cons, h1]
  | some y =>
    have hy := List.find?_some h
    have hy2 : thing y.2.2.kind ≠ 0 := (of_decide_eq_true hy).2
    simp [hy2]
/-- Is it a write of a value to a key. -/
def hitW (s : ByteArray) (v : Int) (x : MN) : Bool := isW x.2.2.kind && decide (x.2.2.key = s) && decide (x.2.2.value = v)
/-- Who wrote a value. -/
def writersN (N : List MN) (s : ByteArray) (v : Int) : List (Nat × Nat) := (N.filter (hitW s v)).map (fun x => (x.1, x.2.1))
theorem writers_snoc (N : List MN) (x : MN) (s : ByteArray) (v : Int) : writersN (N ++ [x]) s v = writersN N s v ++ (if hitW s v x then [(x.1, x.2.1)] else []) := by
  unfold writersN
  rw [List.filter_append, List.map_append]
  by_cases h : hitW s v x <;> simp [h]
theorem writers_len (N : List MN) (s : ByteArray) (v : Int) : (writersN N s v).length ≤ N.length := by
  unfold writersN
  rw [List.length_map]
  exact List.length_filter_le _ _
/-- Is it a write of a transaction to a key. -/
def hitL (t : Nat) (s : ByteArray) (x : MN) : Bool := isW x.2.2.kind && decide (x.1 = t) && decide (x.2.2.key = s)
/-- The last one. -/
def lastN (N : List MN) (t : Nat) (s : ByteArray) : Option Nat := ((N.filter (hitL t s)).getLast?).map (fun x => x.2.1)
theorem last_snoc (N : List MN) (x : MN) (t : Nat) (s : ByteArray) : lastN (N ++ [x]) t s = if hitL t s x then some x.2.1 else lastN N t s := by
  unfold lastN
  rw [List.filter_append]
  by_cases h : hitL t s x <;> simp [h]
/-- No value is written twice to a key. -/
def uniqN (N : List MN) : Prop := ∀ s v, (writersN N s v).length ≤ 1
theorem uniq_snoc (N : List MN) (x : MN) : uniqN (N ++ [x]) ↔ uniqN N ∧ (isW x.2.2.kind = true → writersN N x.2.2.key x.2.2.value = []) := by
  constructor
  · intro h
    refine ⟨fun s v => ?_, fun hw => ?_⟩
    · have := h s v
      rw [writers_snoc, List.length_append] at this
      omega
    · have := h x.2.2.key x.2.2.value
      rw [writers_snoc, if_pos (by simp [hitW, hw]), List.length_append] at this
      simp at this
      exact this
  · rintro ⟨h1, h2⟩ s v
    rw [writers_snoc]
    by_cases hh : hitW s v x
    · have hh' := hh
      unfold hitW at hh'
      simp only [Bool.and_eq_true, decide_eq_true_eq] at hh'
      obtain ⟨⟨a, rfl⟩, rfl⟩ := hh'
      rw [h2 a]
      simp [hh]
    · simp [hh]
      exact h1 s v

/-! Keys of the maps. -/
theorem Try.laidOut : laidOutB Try.prog = true := by kernel_rfl
theorem keys9 : Keyed Try.prog 9 := string_keyed Try.underlying9
theorem key9 (s : ByteArray) (hs : s.size ≤ maxLen) : keyOf Try.prog 9 (.string s) = some (.string s.data.toList) := Go.WideMaps.keyOf_string_mk Try.underlying9 hs
theorem lawV : WideMaps.KeyLaw Try.prog 107 := deep_law_gate Try.laidOut (of_decide_eq_true (by kernel_rfl)) (of_decide_eq_true (by kernel_rfl)) (by kernel_rfl) (by kernel_rfl)
theorem keysV : Keyed Try.prog 107 := Keyed.of_law lawV
theorem lawP : WideMaps.KeyLaw Try.prog 114 := deep_law_gate Try.laidOut (of_decide_eq_true (by kernel_rfl)) (of_decide_eq_true (by kernel_rfl)) (by kernel_rfl) (by kernel_rfl)
theorem keysP : Keyed Try.prog 114 := Keyed.of_law lawP
theorem zeroI (w : World) : (zeroValue 3).run Try.prog w = .ok (.int .i64 0) w := by kernel_rfl
theorem zeroW (w : World) : (zeroValue 51).run Try.prog w = .ok (.slice none 0 0) w := by kernel_rfl
theorem Try.c3 : Try.prog.cellsOf 3 = 1 := by kernel_rfl
theorem Try.c9 : Try.prog.cellsOf 9 = 1 := by kernel_rfl
theorem Try.cV : Try.prog.cellsOf 107 = 2 := by kernel_rfl
theorem Try.cP : Try.prog.cellsOf 114 = 2 := by kernel_rfl
theorem Try.ktV : Try.prog.keyType 107 = true := by kernel_rfl
theorem Try.ktP : Try.prog.keyType 114 = true := by kernel_rfl
theorem Try.tys : ∃ m, Try.prog.types.size + 1 = m + 1 + 1 := ⟨Try.prog.types.size - 1, by
  have : 0 < Try.prog.types.size := by decide +kernel
  omega⟩
def verV (s : ByteArray) (v : Int) : Value := .agg #[.string s, .int .i64 v]
def parV (t : Nat) (s : ByteArray) : Value := .agg #[.int .i64 t, .string s]
theorem verV_inj {s s' : ByteArray} {v v' : Int} (h : verV s v = verV s' v') : s = s' ∧ v = v' := by
  unfold verV at h
  simp at h
  exact h
theorem parV_inj {s s' : ByteArray} {t t' : Nat} (h : parV t s = parV t' s') : t = t' ∧ s = s' := by
  unfold parV at h
  simp at h
  exact ⟨by omega, h.2⟩
theorem lits3 (m : Nat) (t : Int) (ht : (Lit.int .i64 t).wf = true) : Try.prog.keyLits (m + 1) 3 [.int .i64 t] = some [.int .i64 t] := by
  unfold Program.keyLits
  rw [Try.underlying3]
  simp [ht]
theorem lits9 (m : Nat) (s : ByteArray) (hs : s.size ≤ maxLen) : Try.prog.keyLits (m + 1) 9 [.string s] = some [.string s.data.toList] := by
  unfold Program.keyLits
  rw [Try.underlying9]
  simp [hs]
theorem key_ver (s : ByteArray) (v : Int) (hv : (Lit.int .i64 v).wf = true) (hs : s.size ≤ maxLen) : ∃ kl, keyOf Try.prog 107 (verV s v) = some kl := by
  unfold keyOf verV
  rw [Try.underlying107]
  simp only [Try.ktV, Bool.true_and]
  have hf : (Value.agg #[.string s, .int .i64 v]).formed Try.prog 107 = true := by
    simp [Value.formed, Try.underlying107, Try.cV]
  rw [if_pos hf]
  obtain ⟨m, hm⟩ := Try.tys
  rw [hm]
  have hk : Try.prog.keyLits (m + 1 + 1) 107 (Value.agg #[.string s, .int .i64 v]).cells.toList = some [.string s.data.toList, .int .i64 v] := by
    unfold Program.keyLits
    rw [Try.underlying107]
    simp [Value.cells]
    refine ⟨Try.cV.symm, ?_⟩
    rw [Try.c3, Try.c9]
    simp [lits3 m v hv, lits9 m s hs]
  rw [hk]
  exact ⟨_, rfl⟩
theorem key_par (t : Nat) (s : ByteArray) (ht : t ≤ 1000) (hs : s.size ≤ maxLen) : ∃ kl, keyOf Try.prog 114 (parV t s) = some kl := by
  have hv : (Lit.int .i64 (t : Int)).wf = true := by
    have a : IntKind.i64.min = -9223372036854775808 := by decide
    have b : IntKind.i64.max = 9223372036854775807 := by decide
    simp [Lit.wf, a, b]
    omega
  unfold keyOf parV
  rw [Try.underlying114]
  simp only [Try.ktP, Bool.true_and]
  have hf : (Value.agg #[.int .i64 (t : Int), .string s]).formed Try.prog 114 = true := by
    simp [Value.formed, Try.underlying114, Try.cP]
  rw [if_pos hf]
  obtain ⟨m, hm⟩ := Try.tys
  rw [hm]
  have hk : Try.prog.keyLits (m + 1 + 1) 114 (Value.agg #[.int .i64 (t : Int), .string s]).cells.toList = some [.int .i64 (t : Int), .string s.data.toList] := by
    unfold Program.keyLits
    rw [Try.underlying114]
    simp [Value.cells]
    refine ⟨Try.cP.symm, ?_⟩
    rw [Try.c3, Try.c9]
    simp [lits3 m t hv, lits9 m s hs]
  rw [hk]
  exact ⟨_, rfl⟩

/-- An entry is looked up or laid, then stored into: what the map holds then. -/
theorem MapV.entry {w : World} {P : Program} {k t e : TypeId} {b n : Nat} {f : Value → Option Value} (h : MapV w P k b n f) (K : WideMaps.KeyLaw P k) (ht : P.underlying t = some (.map k e)) {z : Value} (hz : ∀ u : World, (zeroValue e).run P u = .ok z u) (hn : n < maxLen) {key : Value} {kl : Lit} (hkey : keyOf P k key = some kl) :
    ∃ (st : Nat) (w1 : World), (Instr.mapEntry t (.map (some b)) key).run P w = .ok (.tuple #[(f key).getD z, goInt st]) w1 ∧ w.grownBy w1 (some b) ∧ w1.heap.size = w.heap.size ∧
      ∀ (w2 : World) (val : Value), w2.heap[b]? = w1.heap[b]? → ∃ w3 g, (Instr.entryStore t (.map (some b)) (goInt st) val).run P w2 = .ok () w3 ∧ IsPut f key val g ∧ MapV w3 P k b (n + 1) g ∧ w2.grownBy w3 (some b) := by
  have h' := h
  obtain ⟨D, ⟨es, clock, hb, F, hs, hD⟩, hrest⟩ := h
  obtain ⟨v0, st, es1, clock1, r1, hv0, r2⟩ := entry_then_store K ht hz hb F hkey
  have hv : v0 = (f key).getD z := by
    have hlook := h'.look (Keyed.of_law K) ht (hz w) hkey
    rcases K.find w hkey es.toList F.keys with ⟨h1, h2⟩ | ⟨j, e0, h1, h2, h3⟩
    · have hrun : (Instr.lookup t (.map (some b)) key false).run P w = .ok z w := by
        simp [Instr.lookup, run_underlying ht, MapKept.run_getObj_map hb, K.check w _ hkey, h1, hz, Result.andThen]
      have e1 := (Result.ok.inj (hrun.symm.trans hlook)).1
      rcases hv0 with ⟨e0, hm, hk, rfl⟩ | ⟨_, rfl⟩
      · exact absurd hk (h2 e0 hm)
      · exact e1
    · have hj : es[j]? = some e0 := by simpa using h2
      have hrun : (Instr.lookup t (.map (some b)) key false).run P w = .ok e0.val w := by
        simp [Instr.lookup, run_underlying ht, MapKept.run_getObj_map hb, K.check w _ hkey, h1, hj, Result.andThen]
      have e1 := (Result.ok.inj (hrun.symm.trans hlook)).1
      have hsame : es.modify j (fun e => { e with key := key }) = es := by
        apply Array.ext'
        rw [Array.toList_modify, modify_eq_set _ _ _ _ h2]
        have : ({ e0 with key := key } : MapEntry) = e0 := by rw [← h3]
        rw [this]
        exact set_self _ _ _ h2
      have hent : (Instr.mapEntry t (.map (some b)) key).run P w = .ok (.tuple #[e0.val, goInt e0.born]) (setBlock w b (.map es clock)) := by
        simp [Instr.mapEntry, run_underlying ht, MapKept.run_getObj_map hb, K.check w false hkey, h1, hj, h3, K.stays w hkey, hsame, MapKept.run_setObj_map _ hb, Result.andThen, setBlock]
      have e2 := (Result.ok.inj (r1.symm.trans hent)).1
      have e3 : v0 = e0.val := by
        have e4 := Value.tuple.inj e2
        exact Option.some.inj (show some v0 = some e0.val from congrArg (fun a : Array Value => a[0]?) e4)
      rw [e3]
      exact e1
  refine ⟨st, setBlock w b (.map es1 clock1), by rw [← hv]; exact r1, ⟨rfl, rfl, rfl, by simp [setBlock], fun i _ hi => heap_setBlock_other hb _ (fun e => hi (congrArg some e))⟩, by simp [setBlock], fun w2 val hw2 => ?_⟩
  have hw2' : w2.heap[b]? = some (.map es1 clock1) := hw2.trans (heap_setBlock_same hb _)
  obtain ⟨es', clock', q1, q2⟩ := r2 w2 val hw2'
  obtain ⟨w', g, p1, p2, p3, p4⟩ := h'.put (Keyed.of_law K) ht hn val hkey
  have e : w' = setBlock w b (.map es' clock') := (Result.ok.inj (p1.symm.trans q2)).2
  refine ⟨_, g, q1, p2, p3.same ?_, ⟨rfl, rfl, rfl, by simp [setBlock], fun i _ hi => heap_setBlock_other hw2' _ (fun e => hi (by rw [e]))⟩⟩
  rw [heap_setBlock_same hw2', e, heap_setBlock_same hb]
end Go.Proofs.Ytnfbcmnlloipiaa
