/-
  A table in memory: its box and its three maps; what note is made of.
-/
import Derived.Test.YtnfbcmnlloipiaaTb0
namespace Go.Proofs.Ytnfbcmnlloipiaa
set_option linter.unusedVariables false
set_option linter.unusedSimpArgs false
open Go.RowKit Go.Lib Go.Maps
open Tx (MTxn)

/-- The cells of who wrote a value. -/
def wrC (l : List (Nat × Nat)) : List Value := l.flatMap fun x => [.int .i64 (x.1 : Int), .int .i64 (x.2 : Int)]
theorem wrC_append (a b : List (Nat × Nat)) : wrC (a ++ b) = wrC a ++ wrC b := by simp [wrC]
/-- The keys' kinds. -/
def Ks (w : World) (kb n : Nat) (N : List MN) : Prop := ∃ f, MapV w Try.prog 9 kb n f ∧ ∀ s, f (.string s) = if kindN N s = 0 then none else some (.int .i64 (kindN N s))
/-- Who wrote what: a row of its own each. -/
structure Ws (B : Nat) (w : World) (wb : Nat) (F : Nat → Prop) (n : Nat) (N : List MN) (S : ByteArray → Int → Value) : Prop where
  map : ∃ f, MapV w Try.prog 107 wb n f ∧ ∀ s v, f (verV s v) = if writersN N s v = [] then none else some (S s v)
  nil : ∀ s v, writersN N s v = [] → S s v = .slice none 0 0
  own : ∀ s v, w.ownsRow B 54 2 (S s v) (writersN N s v).length (wrC (writersN N s v))
  foot : ∀ s v g, (S s v).ownBlock = some g → F g
  apart : ∀ s v s' v' g, (S s v).ownBlock = some g → (S s' v').ownBlock = some g → s = s' ∧ v = v'
/-- The last writes. -/
def Lt (w : World) (lb n : Nat) (N : List MN) : Prop := ∃ f, MapV w Try.prog 114 lb n f ∧ ∀ t s, f (parV t s) = (lastN N t s).map (fun i => .int .i64 (i : Int))
/-- A table: all its blocks but those of its transactions are of F. -/
structure Tb (B : Nat) (w : World) (tb kb wb lb : Nat) (tv kv : Value) (F : Nat → Prop) (n : Nat) (u : Bool) (Nk Nw Nl : List MN) : Prop where
  box : w.heap[tb]? = some (.cells #[tv, kv, .map (some kb), .map (some wb), .map (some lb), .bool u] 64 (0, 0))
  n1 : kb ≠ wb
  n2 : kb ≠ lb
  n3 : wb ≠ lb
  ft : F tb
  fk : F kb
  fw : F wb
  fl : F lb
  flt : ∀ b, F b → B ≤ b ∧ b < w.heap.size
  ks : Ks w kb n Nk
  ws : ∃ S, Ws B w wb F n Nw S
  lt : Lt w lb n Nl
section
variable {B : Nat} {w w' : World} {tb kb wb lb : Nat} {tv kv : Value} {F F' : Nat → Prop} {n : Nat} {u : Bool} {N Nk Nw Nl : List MN}
theorem Tb.c (h : Tb B w tb kb wb lb tv kv F n u Nk Nw Nl) : w.cell? ⟨tb, 0, none⟩ = some tv ∧ w.cell? ⟨tb, 1, none⟩ = some kv ∧ w.cell? ⟨tb, 2, none⟩ = some (.map (some kb)) ∧ w.cell? ⟨tb, 3, none⟩ = some (.map (some wb)) ∧ w.cell? ⟨tb, 4, none⟩ = some (.map (some lb)) ∧ w.cell? ⟨tb, 5, none⟩ = some (.bool u) :=
  ⟨Lib.cell_of_heap h.box 0, Lib.cell_of_heap h.box 1, Lib.cell_of_heap h.box 2, Lib.cell_of_heap h.box 3, Lib.cell_of_heap h.box 4, Lib.cell_of_heap h.box 5⟩
theorem Ks.same (h : Ks w kb n N) (hb : w'.heap[kb]? = w.heap[kb]?) : Ks w' kb n N := by
  obtain ⟨f, h1, h2⟩ := h
  exact ⟨f, h1.same hb, h2⟩
theorem Lt.same (h : Lt w lb n N) (hb : w'.heap[lb]? = w.heap[lb]?) : Lt w' lb n N := by
  obtain ⟨f, h1, h2⟩ := h
  exact ⟨f, h1.same hb, h2⟩
theorem Ks.mono {n' : Nat} (h : Ks w kb n N) (hn : n ≤ n') : Ks w kb n' N := by
  obtain ⟨f, h1, h2⟩ := h
  exact ⟨f, h1.mono hn, h2⟩
theorem Lt.mono {n' : Nat} (h : Lt w lb n N) (hn : n ≤ n') : Lt w lb n' N := by
  obtain ⟨f, h1, h2⟩ := h
  exact ⟨f, h1.mono hn, h2⟩
theorem Ws.keep {S : ByteArray → Int → Value} (h : Ws B w wb F n N S) (hl : F wb) (hk : ∀ b, F b → w'.heap[b]? = w.heap[b]?) (hF : ∀ b, F b → F' b) : Ws B w' wb F' n N S := by
  obtain ⟨f, h1, h2⟩ := h.map
  exact ⟨⟨f, h1.same (hk wb hl), h2⟩, h.nil, fun s v => own_same (h.own s v) (fun g hg => hk g (h.foot s v g hg)), fun s v g hg => hF g (h.foot s v g hg), h.apart⟩
theorem Ws.mono {n' : Nat} {S : ByteArray → Int → Value} (h : Ws B w wb F n N S) (hn : n ≤ n') : Ws B w wb F n' N S := by
  obtain ⟨f, h1, h2⟩ := h.map
  exact ⟨⟨f, h1.mono hn, h2⟩, h.nil, h.own, h.foot, h.apart⟩
theorem Tb.keep (h : Tb B w tb kb wb lb tv kv F n u Nk Nw Nl) {P : Nat → Prop} (hg : Gro P w w') (hP : ∀ b, F b → ¬ P b) : Tb B w' tb kb wb lb tv kv F n u Nk Nw Nl := by
  have hk : ∀ b, F b → w'.heap[b]? = w.heap[b]? := fun b hb => hg.block b (h.flt b hb).2 (hP b hb)
  obtain ⟨S, hS⟩ := h.ws
  exact ⟨(hk tb h.ft).trans h.box, h.n1, h.n2, h.n3, h.ft, h.fk, h.fw, h.fl, fun b hb => ⟨(h.flt b hb).1, Nat.lt_of_lt_of_le (h.flt b hb).2 hg.size⟩, h.ks.same (hk kb h.fk), ⟨S, hS.keep h.fw hk (fun _ x => x)⟩, h.lt.same (hk lb h.fl)⟩
theorem Tb.later (h : Tb B w tb kb wb lb tv kv F n u Nk Nw Nl) (hb : Below w.heap.size w w') : Tb B w' tb kb wb lb tv kv F n u Nk Nw Nl :=
  h.keep (Gro.of_below (P := fun _ => False) hb) (fun _ _ c => c)
theorem Tb.wider {n' : Nat} (h : Tb B w tb kb wb lb tv kv F n u Nk Nw Nl) (hF : ∀ b, F b → F' b) (hlt : ∀ b, F' b → B ≤ b ∧ b < w.heap.size) (hn : n ≤ n') : Tb B w tb kb wb lb tv kv F' n' u Nk Nw Nl := by
  obtain ⟨S, hS⟩ := h.ws
  exact ⟨h.box, h.n1, h.n2, h.n3, hF _ h.ft, hF _ h.fk, hF _ h.fw, hF _ h.fl, hlt, h.ks.mono hn, ⟨S, (hS.keep h.fw (fun _ _ => rfl) hF).mono hn⟩, h.lt.mono hn⟩
/-- A block of who wrote a value is none of the others. -/
theorem Tb.row (h : Tb B w tb kb wb lb tv kv F n u Nk Nw Nl) {S : ByteArray → Int → Value} (hS : Ws B w wb F n Nw S) {s : ByteArray} {v : Int} {g : Nat} (hg : (S s v).ownBlock = some g) : g ≠ tb ∧ g ≠ kb ∧ g ≠ wb ∧ g ≠ lb := by
  obtain ⟨_, _, cs, hc⟩ := own_block (hS.own s v) hg
  obtain ⟨_, hk, _⟩ := h.ks
  obtain ⟨_, hw, _⟩ := hS.map
  obtain ⟨_, hl, _⟩ := h.lt
  obtain ⟨_, _, ek⟩ := hk.block
  obtain ⟨_, _, ew⟩ := hw.block
  obtain ⟨_, _, el⟩ := hl.block
  refine ⟨fun e => ?_, fun e => ?_, fun e => ?_, fun e => ?_⟩
  · rw [e, h.box] at hc
    simp at hc
  · rw [e, ek] at hc
    cases hc
  · rw [e, ew] at hc
    cases hc
  · rw [e, el] at hc
    cases hc
theorem Tb.boxes (h : Tb B w tb kb wb lb tv kv F n u Nk Nw Nl) : tb ≠ kb ∧ tb ≠ wb ∧ tb ≠ lb := by
  obtain ⟨_, hk, _⟩ := h.ks
  obtain ⟨S, hS⟩ := h.ws
  obtain ⟨_, hw, _⟩ := hS.map
  obtain ⟨_, hl, _⟩ := h.lt
  obtain ⟨_, _, ek⟩ := hk.block
  obtain ⟨_, _, ew⟩ := hw.block
  obtain ⟨_, _, el⟩ := hl.block
  refine ⟨fun e => ?_, fun e => ?_, fun e => ?_⟩
  · have := h.box
    rw [e, ek] at this
    cases this
  · have := h.box
    rw [e, ew] at this
    cases this
  · have := h.box
    rw [e, el] at this
    cases this
theorem Ks.look (h : Ks w kb n N) (s : ByteArray) (hs : s.size ≤ maxLen) : (Instr.lookup 60 (.map (some kb)) (.string s) false).run Try.prog w = .ok (.int .i64 (kindN N s)) w := by
  obtain ⟨f, h1, h2⟩ := h
  rw [h1.look keys9 Try.underlying60 (zeroI w) (key9 s hs), h2 s]
  by_cases e : kindN N s = 0 <;> simp [e]
theorem Ws.look {S : ByteArray → Int → Value} (h : Ws B w wb F n N S) (s : ByteArray) (v : Int) (hs : s.size ≤ maxLen) (hv : (Lit.int .i64 v).wf = true) : (Instr.lookup 61 (.map (some wb)) (verV s v) false).run Try.prog w = .ok (S s v) w := by
  obtain ⟨f, h1, h2⟩ := h.map
  obtain ⟨kl, hkl⟩ := key_ver s v hv hs
  rw [h1.look keysV Try.underlying61 (zeroW w) hkl, h2 s v]
  by_cases e : writersN N s v = []
  · simp [e, h.nil s v e]
  · simp [e]
theorem Lt.look (h : Lt w lb n N) (t : Nat) (s : ByteArray) (hs : s.size ≤ maxLen) (ht : t ≤ 1000) : (Instr.lookup 62 (.map (some lb)) (parV t s) false).run Try.prog w = .ok (.int .i64 (((lastN N t s).getD 0 : Nat) : Int)) w := by
  obtain ⟨f, h1, h2⟩ := h
  obtain ⟨kl, hkl⟩ := key_par t s ht hs
  rw [h1.look keysP Try.underlying62 (zeroI w) hkl, h2 t s]
  cases lastN N t s <;> rfl
/-- What plays no part for the keys' kinds. -/
theorem Ks.skip (h : Ks w kb n N) (x : MN) (hx : thing x.2.2.kind = 0 ∨ kindN N x.2.2.key ≠ 0) : Ks w kb n (N ++ [x]) := by
  obtain ⟨f, h1, h2⟩ := h
  refine ⟨f, h1, fun s => ?_⟩
  have e : kindN (N ++ [x]) s = kindN N s := by
    rw [kind_snoc]
    by_cases e0 : kindN N s = 0
    · rw [if_pos e0, e0]
      by_cases ek : x.2.2.key = s
      · rw [if_pos ek]
        rcases hx with hx | hx
        · exact hx
        · rw [ek] at hx
          exact absurd e0 hx
      · rw [if_neg ek]
    · rw [if_neg e0]
  rw [h2 s, e]
theorem Ws.skip {S : ByteArray → Int → Value} (h : Ws B w wb F n N S) (x : MN) (hx : isW x.2.2.kind = false) : Ws B w wb F n (N ++ [x]) S := by
  have e : ∀ s v, writersN (N ++ [x]) s v = writersN N s v := fun s v => by rw [writers_snoc, if_neg (by simp [hitW, hx]), List.append_nil]
  obtain ⟨f, h1, h2⟩ := h.map
  exact ⟨⟨f, h1, fun s v => by rw [e, h2 s v]⟩, fun s v => by rw [e]; exact h.nil s v, fun s v => by rw [e]; exact h.own s v, h.foot, h.apart⟩
theorem Lt.skip (h : Lt w lb n N) (x : MN) (hx : isW x.2.2.kind = false) : Lt w lb n (N ++ [x]) := by
  obtain ⟨f, h1, h2⟩ := h
  exact ⟨f, h1, fun t s => by rw [last_snoc, if_neg (by simp [hitL, hx]), h2 t s]⟩
theorem Tb.skipK (h : Tb B w tb kb wb lb tv kv F n u Nk Nw Nl) (x : MN) (hx : thing x.2.2.kind = 0 ∨ kindN Nk x.2.2.key ≠ 0) : Tb B w tb kb wb lb tv kv F n u (Nk ++ [x]) Nw Nl :=
  ⟨h.box, h.n1, h.n2, h.n3, h.ft, h.fk, h.fw, h.fl, h.flt, h.ks.skip x hx, h.ws, h.lt⟩
theorem Tb.skipW (h : Tb B w tb kb wb lb tv kv F n u Nk Nw Nl) (x : MN) (hx : isW x.2.2.kind = false) : Tb B w tb kb wb lb tv kv F n u Nk (Nw ++ [x]) (Nl ++ [x]) := by
  obtain ⟨S, hS⟩ := h.ws
  exact ⟨h.box, h.n1, h.n2, h.n3, h.ft, h.fk, h.fw, h.fl, h.flt, h.ks, ⟨S, hS.skip x hx⟩, h.lt.skip x hx⟩
/-- The kind of a key is put in. -/
theorem Tb.putK (h : Tb B w tb kb wb lb tv kv F n u Nk Nw Nl) (x : MN) (hs : x.2.2.key.size ≤ maxLen) (hn : n < maxLen) (h0 : kindN Nk x.2.2.key = 0) (ht : thing x.2.2.kind ≠ 0) :
    ∃ w', (Instr.mapUpdate 60 (.map (some kb)) (.string x.2.2.key) (.int .i64 (thing x.2.2.kind))).run Try.prog w = .ok () w' ∧ Tb B w' tb kb wb lb tv kv F (n + 1) u (Nk ++ [x]) Nw Nl ∧ w.grownBy w' (some kb) := by
  obtain ⟨f, h1, h2⟩ := h.ks
  obtain ⟨w', g, r1, hp, r2, r3⟩ := h1.put keys9 Try.underlying60 hn (.int .i64 (thing x.2.2.kind)) (key9 _ hs)
  obtain ⟨b1, b2, b3⟩ := h.boxes
  obtain ⟨S, hS⟩ := h.ws
  have hk : ∀ b, F b → b ≠ kb → w'.heap[b]? = w.heap[b]? := fun b hb hne => r3.block b (h.flt b hb).2 (fun e => hne (Option.some.inj e))
  refine ⟨w', r1, ⟨(hk tb h.ft b1).trans h.box, h.n1, h.n2, h.n3, h.ft, h.fk, h.fw, h.fl, fun b hb => ⟨(h.flt b hb).1, Nat.lt_of_lt_of_le (h.flt b hb).2 r3.size⟩, ⟨g, r2, fun s => ?_⟩, ⟨S, ?_⟩, (h.lt.same (hk lb h.fl (Ne.symm h.n2))).mono (Nat.le_succ _)⟩, r3⟩
  · rw [kind_snoc]
    by_cases e : x.2.2.key = s
    · subst e
      rw [hp.1, h0, if_pos rfl, if_pos rfl, if_neg ht]
    · rw [hp.2 (.string s) (fun c => e (Value.string.inj c).symm), h2 s, if_neg e]
      by_cases e0 : kindN Nk s = 0 <;> simp [e0]
  · obtain ⟨fw, q1, q2⟩ := hS.map
    exact ⟨⟨fw, (q1.same (hk wb h.fw (Ne.symm h.n1))).mono (Nat.le_succ _), q2⟩, hS.nil, fun s v => own_same (hS.own s v) (fun g hg => hk g (hS.foot s v g hg) (h.row hS hg).2.1), hS.foot, hS.apart⟩
/-- The last write is put in. -/
theorem Tb.putL (h : Tb B w tb kb wb lb tv kv F n u Nk Nw Nl) (x : MN) (hs : x.2.2.key.size ≤ maxLen) (hn : n < maxLen) (ht : x.1 ≤ 1000) (hw : isW x.2.2.kind = true) :
    ∃ w', (Instr.mapUpdate 62 (.map (some lb)) (parV x.1 x.2.2.key) (.int .i64 (x.2.1 : Int))).run Try.prog w = .ok () w' ∧ Tb B w' tb kb wb lb tv kv F (n + 1) u Nk Nw (Nl ++ [x]) ∧ w.grownBy w' (some lb) := by
  obtain ⟨f, h1, h2⟩ := h.lt
  obtain ⟨kl, hkl⟩ := key_par x.1 x.2.2.key ht hs
  obtain ⟨w', g, r1, hp, r2, r3⟩ := h1.put keysP Try.underlying62 hn (.int .i64 (x.2.1 : Int)) hkl
  obtain ⟨b1, b2, b3⟩ := h.boxes
  obtain ⟨S, hS⟩ := h.ws
  have hk : ∀ b, F b → b ≠ lb → w'.heap[b]? = w.heap[b]? := fun b hb hne => r3.block b (h.flt b hb).2 (fun e => hne (Option.some.inj e))
  refine ⟨w', r1, ⟨(hk tb h.ft b3).trans h.box, h.n1, h.n2, h.n3, h.ft, h.fk, h.fw, h.fl, fun b hb => ⟨(h.flt b hb).1, Nat.lt_of_lt_of_le (h.flt b hb).2 r3.size⟩, (h.ks.same (hk kb h.fk h.n2)).mono (Nat.le_succ _), ⟨S, ?_⟩, ⟨g, r2, fun t s => ?_⟩⟩, r3⟩
  · obtain ⟨fw, q1, q2⟩ := hS.map
    exact ⟨⟨fw, (q1.same (hk wb h.fw h.n3)).mono (Nat.le_succ _), q2⟩, hS.nil, fun s v => own_same (hS.own s v) (fun g hg => hk g (hS.foot s v g hg) (h.row hS hg).2.2.2), hS.foot, hS.apart⟩
  · rw [last_snoc]
    by_cases e : x.1 = t ∧ x.2.2.key = s
    · obtain ⟨rfl, rfl⟩ := e
      rw [hp.1, if_pos (by simp [hitL, hw]), Option.map_some]
    · rw [hp.2 (parV t s) (fun c => e (by obtain ⟨c1, c2⟩ := parV_inj c; exact ⟨c1.symm, c2.symm⟩)), h2 t s, if_neg (fun c => e (by
        unfold hitL at c
        simp only [Bool.and_eq_true, decide_eq_true_eq] at c
        exact ⟨c.1.2, c.2⟩))]
/-- Whether values are unique is set. -/
theorem Tb.mark (h : Tb B w tb kb wb lb tv kv F n u Nk Nw Nl) (u' : Bool) : Tb B (w.setCell ⟨tb, 5, none⟩ (.bool u')) tb kb wb lb tv kv F n u' Nk Nw Nl := by
  obtain ⟨b1, b2, b3⟩ := h.boxes
  obtain ⟨S, hS⟩ := h.ws
  have hk : ∀ b, b ≠ tb → (w.setCell ⟨tb, 5, none⟩ (.bool u')).heap[b]? = w.heap[b]? := fun b hne => set_ne hne
  refine ⟨?_, h.n1, h.n2, h.n3, h.ft, h.fk, h.fw, h.fl, fun b hb => ⟨(h.flt b hb).1, by simpa [World.setCell] using (h.flt b hb).2⟩, h.ks.same (hk kb (Ne.symm b1)), ⟨S, ?_⟩, h.lt.same (hk lb (Ne.symm b3))⟩
  · unfold World.setCell
    simp [Array.getElem?_modify, h.box]
  · obtain ⟨fw, q1, q2⟩ := hS.map
    exact ⟨⟨fw, q1.same (hk wb (Ne.symm b2)), q2⟩, hS.nil, fun s v => own_same (hS.own s v) (fun g hg => hk g (h.row hS hg).1), hS.foot, hS.apart⟩
/-- A write is put in: the entry, the row that has grown, the store. -/
theorem Tb.putW (h : Tb B w tb kb wb lb tv kv F n u Nk Nw Nl) {S : ByteArray → Int → Value} (hS : Ws B w wb F n Nw S) (x : MN) (hs : x.2.2.key.size ≤ maxLen) (hn : n < maxLen) (hv : (Lit.int .i64 x.2.2.value).wf = true) (hw : isW x.2.2.kind = true) (hB : B ≤ w.heap.size) :
    ∃ (st : Nat) (w1 : World), (Instr.mapEntry 61 (.map (some wb)) (verV x.2.2.key x.2.2.value)).run Try.prog w = .ok (.tuple #[S x.2.2.key x.2.2.value, goInt st]) w1 ∧ w.grownBy w1 (some wb) ∧ w1.heap.size = w.heap.size ∧
      ∀ (w2 w4 : World) (v' : Value) (g : Nat), Below w1.heap.size w1 w2 → w2.grownBy w4 (S x.2.2.key x.2.2.value).ownBlock → v'.ownBlock = some g → ((S x.2.2.key x.2.2.value).ownBlock = some g ∨ w1.heap.size ≤ g) → g < w4.heap.size → w4.ownsRow B 54 2 v' ((writersN Nw x.2.2.key x.2.2.value).length + 1) (wrC (writersN Nw x.2.2.key x.2.2.value ++ [(x.1, x.2.1)])) →
        ∃ w3, (Instr.entryStore 61 (.map (some wb)) (goInt st) v').run Try.prog w4 = .ok () w3 ∧ Tb B w3 tb kb wb lb tv kv (wide F w w3) (n + 1) u Nk (Nw ++ [x]) Nl ∧ Gro F w w3 := by
  obtain ⟨f, h1, h2⟩ := hS.map
  obtain ⟨kl, hkl⟩ := key_ver x.2.2.key x.2.2.value hv hs
  obtain ⟨st, w1, r1, r2, r3, r4⟩ := h1.entry lawV Try.underlying61 zeroW hn hkl
  have hSv : (f (verV x.2.2.key x.2.2.value)).getD (.slice none 0 0) = S x.2.2.key x.2.2.value := by
    rw [h2]
    by_cases e : writersN Nw x.2.2.key x.2.2.value = []
    · simp [e, hS.nil _ _ e]
    · simp [e]
  rw [hSv] at r1
  refine ⟨st, w1, r1, r2, r3, fun w2 w4 v' g hb2 hg4 hvg hat hglt hown => ?_⟩
  have hwl : wb < w.heap.size := h1.lt
  have hne : (S x.2.2.key x.2.2.value).ownBlock ≠ some wb := fun e => (h.row hS e).2.2.1 rfl
  have hb4 : w4.heap[wb]? = w1.heap[wb]? := (hg4.block wb (by have := hb2.size; omega) (fun e => hne e.symm)).trans (hb2.block wb (by omega))
  obtain ⟨w3, g3, q1, q2, q3, q4⟩ := r4 w4 v' hb4
  have hsz : w.heap.size ≤ w3.heap.size := by have a := hb2.size; have b := hg4.size; have c := q4.size; omega
  -- what stays
  have hk : ∀ b, b < w.heap.size → b ≠ wb → (S x.2.2.key x.2.2.value).ownBlock ≠ some b → w3.heap[b]? = w.heap[b]? := fun b hb hne1 hne2 => by
    have e1 := q4.block b (by have a := hb2.size; have c := hg4.size; omega) (fun e => hne1 (Option.some.inj e))
    have e2 := hg4.block b (by have a := hb2.size; omega) (fun e => hne2 e.symm)
    have e3 := hb2.block b (by omega)
    have e4 := r2.block b hb (fun e => hne1 (Option.some.inj e))
    exact e1.trans (e2.trans (e3.trans e4))
  obtain ⟨b1, b2, b3⟩ := h.boxes
  have hrow : ∀ y, (S x.2.2.key x.2.2.value).ownBlock = some y → y ≠ tb ∧ y ≠ kb ∧ y ≠ wb ∧ y ≠ lb := fun y hy => h.row hS hy
  have ho3 : w3.ownsRow B 54 2 v' ((writersN Nw x.2.2.key x.2.2.value).length + 1) (wrC (writersN Nw x.2.2.key x.2.2.value ++ [(x.1, x.2.1)])) := own_same hown (fun y hy => q4.block y (by rw [hvg] at hy; cases hy; exact hglt) (fun e => by
    have e' : y = wb := Option.some.inj e
    rw [hvg] at hy
    cases hy
    subst e'
    rcases hat with c | c
    · exact hne c
    · omega))
  refine ⟨w3, q1, ⟨(hk tb (h.flt tb h.ft).2 b2 (fun e => (hrow tb e).1 rfl)).trans h.box, h.n1, h.n2, h.n3, .inl h.ft, .inl h.fk, .inl h.fw, .inl h.fl, fun b hb => ?_, (h.ks.same (hk kb (h.flt kb h.fk).2 h.n1 (fun e => (hrow kb e).2.1 rfl))).mono (Nat.le_succ _), ⟨fun s v => if s = x.2.2.key ∧ v = x.2.2.value then v' else S s v, ?_⟩, (h.lt.same (hk lb (h.flt lb h.fl).2 (Ne.symm h.n3) (fun e => (hrow lb e).2.2.2 rfl))).mono (Nat.le_succ _)⟩, ⟨?_, ?_, ?_, hsz, fun b hb hF => ?_⟩⟩
  · rcases hb with hb | hb
    · exact ⟨(h.flt b hb).1, Nat.lt_of_lt_of_le (h.flt b hb).2 hsz⟩
    · exact ⟨by omega, hb.2⟩
  · have hW : ∀ s v, writersN (Nw ++ [x]) s v = if s = x.2.2.key ∧ v = x.2.2.value then writersN Nw x.2.2.key x.2.2.value ++ [(x.1, x.2.1)] else writersN Nw s v := fun s v => by
      rw [writers_snoc]
      by_cases e : s = x.2.2.key ∧ v = x.2.2.value
      · obtain ⟨rfl, rfl⟩ := e
        simp [hitW, hw]
      · rw [if_neg e, if_neg (fun c => e (by
          unfold hitW at c
          simp only [Bool.and_eq_true, decide_eq_true_eq] at c
          exact ⟨c.1.2.symm, c.2.symm⟩)), List.append_nil]
    refine ⟨⟨g3, q3, fun s v => ?_⟩, fun s v hn0 => ?_, fun s v => ?_, fun s v y hy => ?_, fun s v s' v'' y hy hy' => ?_⟩
    · rw [hW]
      by_cases e : s = x.2.2.key ∧ v = x.2.2.value
      · obtain ⟨rfl, rfl⟩ := e
        simp [q2.1]
      · rw [if_neg e, if_neg e, q2.2 (verV s v) (fun c => e (verV_inj c)), h2 s v]
    · rw [hW] at hn0
      by_cases e : s = x.2.2.key ∧ v = x.2.2.value
      · rw [if_pos e] at hn0
        simp at hn0
      · rw [if_neg e] at hn0
        show (if s = x.2.2.key ∧ v = x.2.2.value then v' else S s v) = _
        rw [if_neg e]
        exact hS.nil s v hn0
    · rw [hW]
      show w3.ownsRow B 54 2 (if s = x.2.2.key ∧ v = x.2.2.value then v' else S s v) _ _
      by_cases e : s = x.2.2.key ∧ v = x.2.2.value
      · rw [if_pos e, if_pos e, List.length_append]
        exact ho3
      · rw [if_neg e, if_neg e]
        exact own_same (hS.own s v) (fun y hy => hk y (own_block (hS.own s v) hy).2.1 (h.row hS hy).2.2.1 (fun c => e (hS.apart s v _ _ y hy c)))
    · have hy2 : (if s = x.2.2.key ∧ v = x.2.2.value then v' else S s v).ownBlock = some y := hy
      by_cases e : s = x.2.2.key ∧ v = x.2.2.value
      · rw [if_pos e, hvg] at hy2
        cases hy2
        rcases hat with c | c
        · exact .inl (hS.foot _ _ _ c)
        · exact .inr ⟨by omega, by have a := q4.size; omega⟩
      · rw [if_neg e] at hy2
        exact .inl (hS.foot _ _ _ hy2)
    · have hy2 : (if s = x.2.2.key ∧ v = x.2.2.value then v' else S s v).ownBlock = some y := hy
      have hy3 : (if s' = x.2.2.key ∧ v'' = x.2.2.value then v' else S s' v'').ownBlock = some y := hy'
      by_cases e : s = x.2.2.key ∧ v = x.2.2.value
      · by_cases e' : s' = x.2.2.key ∧ v'' = x.2.2.value
        · exact ⟨e.1.trans e'.1.symm, e.2.trans e'.2.symm⟩
        · rw [if_pos e, hvg] at hy2
          rw [if_neg e'] at hy3
          cases hy2
          rcases hat with c | c
          · exact absurd (hS.apart _ _ _ _ _ hy3 c) e'
          · have := (own_block (hS.own s' v'') hy3).2.1
            omega
      · rw [if_neg e] at hy2
        by_cases e' : s' = x.2.2.key ∧ v'' = x.2.2.value
        · rw [if_pos e', hvg] at hy3
          cases hy3
          rcases hat with c | c
          · exact absurd (hS.apart _ _ _ _ _ hy2 c) e
          · have := (own_block (hS.own s v) hy2).2.1
            omega
        · rw [if_neg e'] at hy3
          exact hS.apart _ _ _ _ _ hy2 hy3
  · exact q4.os.trans (hg4.os.trans (hb2.os.trans r2.os))
  · exact q4.tape.trans (hg4.tape.trans (hb2.tape.trans r2.tape))
  · exact q4.output.trans (hg4.output.trans (hb2.output.trans r2.output))
  · exact hk b hb (fun e => hF (e ▸ h.fw)) (fun e => hF (hS.foot _ _ _ e))
end
/-- An operation as a value. -/
def opV (o : MOp) (a : Option Addr) (c : Nat) : Value := .agg #[.int .i64 o.kind, .string o.key, .int .i64 o.value, .slice a o.list.length c, .bool o.has, .bool o.nl]
set_option maxHeartbeats 1000000 in
theorem thing_is (k : Int) (w : World) : Calls Try.prog 57 #[.int .i64 k] w fun e w' => e = .returned (.int .i64 (thing k)) ∧ w = w' := by
  by_cases h1 : k = 1
  · subst h1
    go_enter Try.func57, Try.ntmps57
    go_wp2_with fail
    go_ret
    exact ⟨rfl, rfl⟩
  · by_cases h2 : k = 2
    · subst h2
      go_enter Try.func57, Try.ntmps57
      go_wp2_with fail
      go_ret
      exact ⟨rfl, rfl⟩
    · by_cases h3 : k = 3
      · subst h3
        go_enter Try.func57, Try.ntmps57
        go_wp2_with fail
        go_ret
        exact ⟨rfl, rfl⟩
      · by_cases h4 : k = 4
        · subst h4
          go_enter Try.func57, Try.ntmps57
          go_wp2_with fail
          go_ret
          exact ⟨rfl, rfl⟩
        · have b1 : (k == 1) = false := by simpa using h1
          have b2 : (k == 2) = false := by simpa using h2
          have b3 : (k == 3) = false := by simpa using h3
          have b4 : (k == 4) = false := by simpa using h4
          have e : Hid (thing k = 0) := by show thing k = 0; simp [thing, h1, h2, h3, h4]
          go_enter Try.func57, Try.ntmps57
          go_wp2_with fail
          go_ret
          exact ⟨by rw [e.out]; rfl, rfl⟩
set_option maxHeartbeats 1000000 in
theorem writes_is (k : Int) (w : World) : Calls Try.prog 58 #[.int .i64 k] w fun e w' => e = .returned (.bool (isW k)) ∧ w = w' := by
  by_cases h1 : k = 1
  · subst h1
    go_enter Try.func58, Try.ntmps58
    go_wp2_with fail
    go_ret
    exact ⟨rfl, rfl⟩
  · by_cases h3 : k = 3
    · subst h3
      go_enter Try.func58, Try.ntmps58
      go_wp2_with fail
      go_ret
      exact ⟨rfl, rfl⟩
    · have b1 : (k == 1) = false := by simpa using h1
      have b3 : (k == 3) = false := by simpa using h3
      have e : Hid (isW k = false) := by show isW k = false; simp [isW, h1, h3]
      go_enter Try.func58, Try.ntmps58
      go_wp2_with fail
      go_ret
      exact ⟨by rw [e.out]; rfl, rfl⟩
set_option maxHeartbeats 1000000 in
theorem rwrite_is (o : MOp) (a : Option Addr) (c : Nat) (w : World) : Calls Try.prog 63 #[opV o a c] w fun e w' => e = .returned (.bool (isW o.kind)) ∧ Below w.heap.size w w' := by
  have BB : ∀ x, Hid (Below w.heap.size w (w.alloc x)) := fun x => below_box w x
  obtain ⟨k, s, v, l, p, q⟩ := o
  simp only [MOp.kind, MOp.key, MOp.value, MOp.list, MOp.has, MOp.nl, opV] at *
  by_cases h1 : k = 1
  · subst h1
    go_enter Try.func63, Try.ntmps63
    go_wp2_with fail
    go_ret
    exact ⟨rfl, (BB _).out⟩
  · by_cases h3 : k = 3
    · subst h3
      go_enter Try.func63, Try.ntmps63
      go_wp2_with fail
      go_ret
      exact ⟨rfl, (BB _).out⟩
    · have b1 : (k == 1) = false := by simpa using h1
      have b3 : (k == 3) = false := by simpa using h3
      have e : Hid (isW k = false) := by show isW k = false; simp [isW, h1, h3]
      go_enter Try.func63, Try.ntmps63
      go_wp2_with fail
      go_ret
      exact ⟨by rw [e.out]; rfl, (BB _).out⟩
end Go.Proofs.Ytnfbcmnlloipiaa
