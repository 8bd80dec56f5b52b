/-
  Two rows of operations of one's own: what a store did, and what it told.
-/
import Derived.Test.YtadlnkaphkbfdaaIn8
import Derived.Test.YtadlnkaphkbfdaaIn11
namespace Go.Proofs.Ytadlnkaphkbfdaa
set_option linter.unusedVariables false
set_option linter.unusedSimpArgs false
open Go.RowKit Go.Lib

/-- Outside the blocks of two rows. -/
def Out2 (ud ut : Value) (b : Nat) : Prop := ud.ownBlock ≠ some b ∧ ut.ownBlock ≠ some b
/-- A row of operations whose lists were handed in, and one whose lists lie outside both. -/
structure Sv (w0 w : World) (ud ut : Value) (D T : List MOp) : Prop where
  below : Below w0.heap.size w0 w
  done : ∃ rd, w.ownsRow w0.heap.size 31 6 ud rd.length (rowsV rd) ∧ rd.map Prod.fst = D ∧ ∀ r ∈ rd, IntsIn Any w0 r.2 r.1.list
  told : ∃ rt, w.ownsRow w0.heap.size 31 6 ut rt.length (rowsV rt) ∧ rt.map Prod.fst = T ∧ ∀ r ∈ rt, IntsIn (Out2 ud ut) w r.2 r.1.list
  apart : ∀ b, ud.ownBlock = some b → ut.ownBlock ≠ some b
theorem Sv.lt1 {w0 w : World} {ud ut : Value} {D T : List MOp} (h : Sv w0 w ud ut D T) (b : Nat) (e : ud.ownBlock = some b) : w0.heap.size ≤ b ∧ b < w.heap.size := by
  obtain ⟨rd, h1, _⟩ := h.done
  exact h1.lt b e
theorem Sv.lt2 {w0 w : World} {ud ut : Value} {D T : List MOp} (h : Sv w0 w ud ut D T) (b : Nat) (e : ut.ownBlock = some b) : w0.heap.size ≤ b ∧ b < w.heap.size := by
  obtain ⟨rt, h1, _⟩ := h.told
  exact h1.lt b e
theorem Sv.begin (w : World) : Sv w w (.slice none 0 0) (.slice none 0 0) [] [] :=
  ⟨Below.refl _ _, ⟨[], World.ownsRow_nil _ _ _ _, rfl, fun r hr => by simp at hr⟩, ⟨[], World.ownsRow_nil _ _ _ _, rfl, fun r hr => by simp at hr⟩, fun b h => by cases h⟩
theorem row_later {w w' : World} {B e size n : Nat} {v : Value} {xs : List Value} (h : w.ownsRow B e size v n xs) (hb : Below w.heap.size w w') : w'.ownsRow B e size v n xs :=
  World.ownsRow.kept (row := none) h ⟨hb.os, hb.tape, hb.output, hb.size, fun k hk _ => hb.block k hk⟩ (by cases v.ownBlock with
    | none => exact .inl rfl
    | some b => exact .inr (fun c => by cases c))
theorem Sv.later {w0 w w' : World} {ud ut : Value} {D T : List MOp} (h : Sv w0 w ud ut D T) (hb : Below w.heap.size w w') : Sv w0 w' ud ut D T := by
  obtain ⟨rd, h1, h2, h3⟩ := h.done
  obtain ⟨rt, h4, h5, h6⟩ := h.told
  exact ⟨h.below.trans (hb.mono h.below.size), ⟨rd, row_later h1 hb, h2, h3⟩, ⟨rt, row_later h4 hb, h5, fun r hr => (h6 r hr).keep (keeps_below hb) (fun _ _ x => x)⟩, h.apart⟩
/-- What was handed in lies outside. -/
theorem Sv.old {w0 w : World} {ud ut : Value} {D T : List MOp} (h : Sv w0 w ud ut D T) {v : Value} {l : List Int} (hl : IntsIn Any w0 v l) : IntsIn (Out2 ud ut) w v l :=
  hl.keep (keeps_below h.below) (fun b hb _ => ⟨fun e => by have := (h.lt1 b e).1; omega, fun e => by have := (h.lt2 b e).1; omega⟩)
/-- What lies behind a world lies outside. -/
theorem Sv.new {w0 w w' : World} {ud ut : Value} {D T : List MOp} (h : Sv w0 w ud ut D T) {v : Value} {l : List Int} (hl : IntsIn (fun b => w.heap.size ≤ b) w' v l) : IntsIn (Out2 ud ut) w' v l :=
  hl.keep (fun _ _ _ => rfl) (fun b hb hs => ⟨fun e => by have := (h.lt1 b e).2; omega, fun e => by have := (h.lt2 b e).2; omega⟩)
theorem opC_one (O : MOp) (a : Option Addr) (n c : Nat) : ∀ u ∈ opC O (.slice a n c), u.oneCell' = true := by
  intro u hu
  unfold opC at hu
  simp at hu
  rcases hu with rfl | rfl | rfl | rfl | rfl | rfl <;> rfl

set_option maxRecDepth 100000 in
theorem wpList_done {ops : Array Oper} {rest : List Oper} {o : Oper} {a : Act} {Q : Exit → Act → World → Prop} (w0 w : World) (hgd : o.guard = none) (s x : Operand)
    (ho : o.op = .call { callee := .builtin .append, args := #[s, x], argTypes := #[22, 22] }) (ud ut : Value) (D T : List MOp) (h : Sv w0 w ud ut D T) (hs : a.eval s = ud)
    (g1 c : Nat) (hx : a.eval x = .slice (some ⟨g1, 0, none⟩) 1 c) (O : MOp) (la : Option Addr) (ln lc : Nat) (hn : w.heap[g1]? = some (.cells #[.int .i64 O.kind, .string O.key, .int .i64 O.value, .slice la ln lc, .bool O.has, .bool O.nl] 31 (0, 0)))
    (hl : IntsIn Any w0 (.slice la ln lc) O.list) (hD : D.length + 1 ≤ 2199023255552)
    (hK : ∀ ud' w', Sv w0 w' ud' ut (D ++ [O]) T → w.heap.size ≤ w'.heap.size → (∀ b, b < w.heap.size → ud.ownBlock ≠ some b → w'.heap[b]? = w.heap[b]?) → wpList Try.prog ops Q rest (a.put o.dst ud') w') : wpList Try.prog ops Q (o :: rest) a w := by
  obtain ⟨i0, hi, hz0, hz1, hz2⟩ := info_parts Try.infoOp
  obtain ⟨rd, h1, h2, h3⟩ := h.done
  obtain ⟨rt, h4, h5, h6⟩ := h.told
  have hrl : rd.length = D.length := by rw [← h2, List.length_map]
  refine wpList_append_lies _ hgd s x 22 ho w0.heap.size 31 i0 _ 6 64 Try.underlying22 hi hz0 hz1 hz2 rfl (by decide) ud rd.length (rowsV rd) hs h1 ⟨g1, 0, none⟩ 1 c (opC O (.slice la ln lc)) hx rfl (World.news_of_block (cs := #[.int .i64 O.kind, .string O.key, .int .i64 O.value, .slice la ln lc, .bool O.has, .bool O.nl]) (t := 31) (fr := (0, 0)) hn) (opC_one O la ln lc) (by decide) (by unfold maxLen; omega) (by omega) h.below.size w.heap.size rfl ?_
  intro g cap w4 hown hgrow hat hglt
  have hO2 : ∀ b, b < w.heap.size → Out2 ud ut b → Out2 (.slice (some ⟨g, 0, none⟩) (rd.length + 1) cap) ut b := fun b hb hb2 => ⟨fun e => by
    have e' : g = b := by simpa [Value.ownBlock] using e
    rcases hat with q | q
    · exact hb2.1 (by rw [q, e'])
    · omega, hb2.2⟩
  have hne : ut.ownBlock = none ∨ ut.ownBlock ≠ ud.ownBlock := by
    cases e : ut.ownBlock with
    | none => exact .inl rfl
    | some b => exact .inr (fun c => h.apart b c.symm e)
  refine hK _ w4 ⟨h.below.grown hgrow h.below.size (fun k hk => (h.lt1 k hk).1), ⟨rd ++ [(O, .slice la ln lc)], ?_, ?_, ?_⟩, ⟨rt, World.ownsRow.kept h4 hgrow hne, h5, fun r hr => ?_⟩, fun b e => ?_⟩ hgrow.size (fun b hb hn => hgrow.block b hb (fun e => hn e.symm))
  · rw [List.length_append, rowsV_snoc]
    exact hown
  · rw [List.map_append, h2]
    rfl
  · intro r hr
    rcases List.mem_append.1 hr with q | q
    · exact h3 r q
    · simp at q
      subst q
      exact hl
  · exact (h6 r hr).keep (fun b hb hlt => hgrow.block b hlt (fun e => hb.1 e.symm)) hO2
  · have e' : g = b := by simpa [Value.ownBlock] using e
    subst e'
    rcases hat with q | q
    · exact h.apart g q
    · intro c
      have := (h.lt2 g c).2
      omega

set_option maxRecDepth 100000 in
theorem wpList_told {ops : Array Oper} {rest : List Oper} {o : Oper} {a : Act} {Q : Exit → Act → World → Prop} (w0 w : World) (hgd : o.guard = none) (s x : Operand)
    (ho : o.op = .call { callee := .builtin .append, args := #[s, x], argTypes := #[22, 22] }) (ud ut : Value) (D T : List MOp) (h : Sv w0 w ud ut D T) (hs : a.eval s = ut)
    (g1 c : Nat) (hx : a.eval x = .slice (some ⟨g1, 0, none⟩) 1 c) (O : MOp) (la : Option Addr) (ln lc : Nat) (hn : w.heap[g1]? = some (.cells #[.int .i64 O.kind, .string O.key, .int .i64 O.value, .slice la ln lc, .bool O.has, .bool O.nl] 31 (0, 0)))
    (hl : IntsIn (Out2 ud ut) w (.slice la ln lc) O.list) (hT : T.length + 1 ≤ 2199023255552)
    (hK : ∀ ut' w', Sv w0 w' ud ut' D (T ++ [O]) → w.heap.size ≤ w'.heap.size → (∀ b, b < w.heap.size → ut.ownBlock ≠ some b → w'.heap[b]? = w.heap[b]?) → wpList Try.prog ops Q rest (a.put o.dst ut') w') : wpList Try.prog ops Q (o :: rest) a w := by
  obtain ⟨i0, hi, hz0, hz1, hz2⟩ := info_parts Try.infoOp
  obtain ⟨rd, h1, h2, h3⟩ := h.done
  obtain ⟨rt, h4, h5, h6⟩ := h.told
  have hrl : rt.length = T.length := by rw [← h5, List.length_map]
  refine wpList_append_lies _ hgd s x 22 ho w0.heap.size 31 i0 _ 6 64 Try.underlying22 hi hz0 hz1 hz2 rfl (by decide) ut rt.length (rowsV rt) hs h4 ⟨g1, 0, none⟩ 1 c (opC O (.slice la ln lc)) hx rfl (World.news_of_block (cs := #[.int .i64 O.kind, .string O.key, .int .i64 O.value, .slice la ln lc, .bool O.has, .bool O.nl]) (t := 31) (fr := (0, 0)) hn) (opC_one O la ln lc) (by decide) (by unfold maxLen; omega) (by omega) h.below.size w.heap.size rfl ?_
  intro g cap w4 hown hgrow hat hglt
  have hO2 : ∀ b, b < w.heap.size → Out2 ud ut b → Out2 ud (.slice (some ⟨g, 0, none⟩) (rt.length + 1) cap) b := fun b hb hb2 => ⟨hb2.1, fun e => by
    have e' : g = b := by simpa [Value.ownBlock] using e
    rcases hat with q | q
    · exact hb2.2 (by rw [q, e'])
    · omega⟩
  have hne : ud.ownBlock = none ∨ ud.ownBlock ≠ ut.ownBlock := by
    cases e : ud.ownBlock with
    | none => exact .inl rfl
    | some b => exact .inr (fun c => h.apart b e c.symm)
  refine hK _ w4 ⟨h.below.grown hgrow h.below.size (fun k hk => (h.lt2 k hk).1), ⟨rd, World.ownsRow.kept h1 hgrow hne, h2, h3⟩, ⟨rt ++ [(O, .slice la ln lc)], ?_, ?_, ?_⟩, fun b e c => ?_⟩ hgrow.size (fun b hb hn => hgrow.block b hb (fun e => hn e.symm))
  · rw [List.length_append, rowsV_snoc]
    exact hown
  · rw [List.map_append, h5]
    rfl
  · intro r hr
    have key : IntsIn (Out2 ud ut) w r.2 r.1.list := by
      rcases List.mem_append.1 hr with q | q
      · exact h6 r q
      · simp at q
        subst q
        exact hl
    exact key.keep (fun b hb hlt => hgrow.block b hlt (fun e => hb.2 e.symm)) hO2
  · have e' : g = b := by simpa [Value.ownBlock] using c
    subst e'
    rcases hat with q | q
    · exact h.apart g e q
    · have := (h.lt1 g e).2
      omega
/-- How long what is known of a list can be. -/
theorem st_most (T : List MOp) (N : Nat) (h : ∀ j, (T.getD j default).kind = 2 → (T.getD j default).list.length ≤ N) (i : Nat) (t : Int) (s : ByteArray) : (stAt T i t s).list.length ≤ N + min i T.length := by
  induction i generalizing t s with
  | zero => exact Nat.zero_le _
  | succ i ih =>
    have e : stAt T (i + 1) = (stAt T i).on (T.getD i default) := rfl
    rw [e]
    unfold St.on
    by_cases hts : t = thg (T.getD i default).kind ∧ s = (T.getD i default).key
    · rw [hts.1, hts.2, St.put_same]
      have h0 := ih (thg (T.getD i default).kind) (T.getD i default).key
      generalize stAt T i (thg (T.getD i default).kind) (T.getD i default).key = K at *
      have hj := h i
      by_cases hi : i < T.length
      · generalize T.getD i default = o at *
        unfold Kn.wit
        split
        · simp only [List.length_append, List.length_singleton]
          omega
        · split
          · exact Nat.zero_le _
          · split
            · split
              · rename_i h2
                have := hj h2
                show o.list.length ≤ _
                omega
              · exact Nat.zero_le _
            · omega
      · have ed : T.getD i default = default := by simp [List.getD, List.getElem?_eq_none (Nat.le_of_not_lt hi)]
        rw [ed]
        have ew : K.wit default = K := rfl
        rw [ew]
        omega
    · rw [St.put_other _ _ _ _ _ _ hts]
      have := ih t s
      omega
theorem lstv_len (D : List MOp) (s : ByteArray) : (lstv D s).length ≤ D.length := by
  unfold lstv
  rw [List.length_map]
  exact List.length_filter_le _ _
theorem dn_len (D0 l : List MOp) (i : Nat) : (dn D0 l i).length ≤ D0.length + l.length := by
  unfold dn
  rw [List.length_append]
  have h1 := List.length_filter_le wrt (l.take i)
  have h2 : (l.take i).length ≤ l.length := by rw [List.length_take]; omega
  omega
theorem tl_list (D0 l : List MOp) (j : Nat) (h : ((tl D0 l l.length).getD j default).kind = 2) : ((tl D0 l l.length).getD j default).list.length ≤ D0.length + l.length := by
  by_cases hj : j < l.length
  · rw [tl_at D0 l l.length j hj] at h ⊢
    rw [(tell_kind _ _).1] at h
    have e : tell (dn D0 l j) (l.getD j default) = (2, (l.getD j default).key, (l.getD j default).value, lstv (dn D0 l j) (l.getD j default).key, true, (l.getD j default).nl) := by unfold tell; rw [if_pos h]
    rw [e]
    have h1 := lstv_len (dn D0 l j) (l.getD j default).key
    have h2 := dn_len D0 l j
    show (lstv _ _).length ≤ _
    omega
  · have e : (tl D0 l l.length).getD j default = default := by simp [List.getD, List.getElem?_eq_none (show (tl D0 l l.length).length ≤ j by rw [tl_len]; omega)]
    rw [e]
    exact Nat.zero_le _
theorem tl_key (D0 l : List MOp) (hk : ∀ o ∈ l, OpKey o) (j : Nat) : OpKey ((tl D0 l l.length).getD j default) := by
  by_cases hj : j < l.length
  · rw [tl_at D0 l l.length j hj]
    have h := hk (l.getD j default) (by simp [List.getD, hj])
    unfold OpKey at *
    rw [(tell_kind _ _).1, (tell_kind _ _).2]
    exact h
  · have e : (tl D0 l l.length).getD j default = default := by simp [List.getD, List.getElem?_eq_none (show (tl D0 l l.length).length ≤ j by rw [tl_len]; omega)]
    rw [e]
    exact opKey default (by decide)
/-- The six cells of a box. -/
theorem box6 {w : World} {b t : Nat} {a0 a1 a2 a3 a4 a5 : Value} (h : w.heap[b]? = some (.cells #[a0, a1, a2, a3, a4, a5] t (0, 0))) :
    w.cell? ⟨b, 0, none⟩ = some a0 ∧ w.cell? ⟨b, 1, none⟩ = some a1 ∧ w.cell? ⟨b, 2, none⟩ = some a2 ∧ w.cell? ⟨b, 3, none⟩ = some a3 ∧ w.cell? ⟨b, 4, none⟩ = some a4 ∧ w.cell? ⟨b, 5, none⟩ = some a5 := by
  refine ⟨?_, ?_, ?_, ?_, ?_, ?_⟩ <;> rw [cell_of_row w b _ _ t (0, 0) h] <;> rfl
theorem heap_old {w : World} {b : Nat} {o x : Obj} (h : w.heap[b]? = some x) : (w.alloc o).heap[b]? = some x := by
  show (w.heap.push o)[b]? = some x
  rw [Array.getElem?_push]
  have := (Array.getElem?_eq_some_iff.1 h).1
  rw [if_neg (by omega)]
  exact h
/-- An operation in a box behind w, whose list is a row of one's own behind the box. -/
structure Bx (w wr : World) (k : Int) (s : ByteArray) (x : Int) (lv : Value) (p q : Bool) (xs : List Int) : Prop where
  below : Below w.heap.size w wr
  box : wr.heap[w.heap.size]? = some (.cells #[.int .i64 k, .string s, .int .i64 x, lv, .bool p, .bool q] 31 (0, 0))
  row : wr.ownsRow (w.heap.size + 1) 3 1 lv xs.length (xs.map (Value.int .i64))
theorem Bx.begin (w : World) (k : Int) (s : ByteArray) (x : Int) (p q : Bool) : Bx w (w.alloc (.cells #[.int .i64 k, .string s, .int .i64 x, .slice none 0 0, .bool p, .bool q] 31)) k s x (.slice none 0 0) p q [] :=
  ⟨below_box w _, heap_alloc_new w _, World.ownsRow_nil _ _ _ _⟩
theorem Bx.later {w wr w' : World} {k : Int} {s : ByteArray} {x : Int} {lv : Value} {p q : Bool} {xs : List Int} (h : Bx w wr k s x lv p q xs) (hb : Below wr.heap.size wr w') : Bx w w' k s x lv p q xs :=
  ⟨h.below.trans (hb.mono h.below.size), (hb.block _ (Array.getElem?_eq_some_iff.1 h.box).1).trans h.box, row_later h.row hb⟩
theorem Bx.ints {w wr : World} {k : Int} {s : ByteArray} {x : Int} {lv : Value} {p q : Bool} {xs : List Int} (h : Bx w wr k s x lv p q xs) (hl : xs.length ≤ 2147483648) : IntsIn (fun b => w.heap.size ≤ b) wr lv xs := by
  rcases h.row.2 with ⟨hv, hn⟩ | ⟨g, cap, cur, hv, hg, hh, hcap, hm, hsz, ht⟩
  · exact ⟨none, 0, by rw [hv, hn], ⟨by omega, by omega⟩, fun c => by omega⟩
  · refine ⟨some ⟨g, 0, none⟩, cap, hv, ⟨by omega, hcap⟩, fun _ => ⟨g, 0, rfl, by omega, fun j hj => ?_⟩⟩
    have h1 := h.row.cells (g := g) (by rw [hv]; rfl) j (.int .i64 (xs.getD j default)) (by simp [List.getD, hj])
    rw [Addr.add_lit] at h1
    exact h1
theorem Bx.set {w wr : World} {k : Int} {s : ByteArray} {x : Int} {lv lv' : Value} {p q : Bool} {xs : List Int} (hb : Below w.heap.size w wr) (hx : wr.heap[w.heap.size]? = some (.cells #[.int .i64 k, .string s, .int .i64 x, lv, .bool p, .bool q] 31 (0, 0)))
    (hr : wr.ownsRow (w.heap.size + 1) 3 1 lv' xs.length (xs.map (Value.int .i64))) : Bx w (wr.setCell ⟨w.heap.size, 3, none⟩ lv') k s x lv' p q xs := by
  refine ⟨⟨hb.os, hb.tape, hb.output, ?_, fun b hb' => (set_ne (by show b ≠ w.heap.size; omega)).trans (hb.block b hb')⟩, ?_, ?_⟩
  · have := hb.size
    simpa [World.setCell] using this
  · have h1 := Go.Joins.block_setCell (i := 3) hx lv'
    simpa using h1
  · refine World.ownsRow.kept (row := some w.heap.size) hr ⟨rfl, rfl, rfl, by simp [World.setCell], fun b _ hn => set_ne (fun e => hn (by rw [e]))⟩ ?_
    cases e : lv'.ownBlock with
    | none => exact .inl rfl
    | some b => exact .inr (fun c => by
        have h1 := (hr.lt b e).1
        have h2 : b = w.heap.size := by injection c
        omega)

set_option maxRecDepth 100000 in
theorem wpList_bx {ops : Array Oper} {rest : List Oper} {o : Oper} {a : Act} {Q : Exit → Act → World → Prop} (w wr : World) (hgd : o.guard = none) (s x : Operand)
    (ho : o.op = .call { callee := .builtin .append, args := #[s, x], argTypes := #[26, 26] }) (k : Int) (ks : ByteArray) (kx : Int) (lv : Value) (p q : Bool) (xs : List Int) (h : Bx w wr k ks kx lv p q xs) (hs : a.eval s = lv)
    (g1 c : Nat) (hx : a.eval x = .slice (some ⟨g1, 0, none⟩) 1 c) (y : Int) (hn : wr.heap[g1]? = some (.cells #[.int .i64 y] 3 (0, 0))) (hl : xs.length ≤ 2147483648)
    (hK : ∀ g cap w', wr.heap.size ≤ w'.heap.size → Below w.heap.size w w' → w'.heap[w.heap.size]? = some (.cells #[.int .i64 k, .string ks, .int .i64 kx, lv, .bool p, .bool q] 31 (0, 0)) → w'.ownsRow (w.heap.size + 1) 3 1 (.slice (some ⟨g, 0, none⟩) (xs.length + 1) cap) (xs ++ [y]).length ((xs ++ [y]).map (Value.int .i64)) → wpList Try.prog ops Q rest (a.put o.dst (.slice (some ⟨g, 0, none⟩) (xs.length + 1) cap)) w') : wpList Try.prog ops Q (o :: rest) a wr := by
  obtain ⟨i0, hi, hz0, hz1, hz2⟩ := info_parts Try.infoInt
  have hbx := (Array.getElem?_eq_some_iff.1 h.box).1
  refine wpList_append_lies _ hgd s x 26 ho (w.heap.size + 1) 3 i0 (.int .i64 0) 1 8 Try.underlying26 hi hz0 hz1 hz2 rfl (by decide) lv xs.length (xs.map (Value.int .i64)) hs h.row ⟨g1, 0, none⟩ 1 c [.int .i64 y] hx rfl (World.news_of_block (cs := #[.int .i64 y]) (t := 3) (fr := (0, 0)) hn) (by intro u hu; simp at hu; rw [hu]; rfl) (by decide) (by unfold maxLen; omega) (by omega) (by omega) wr.heap.size rfl ?_
  intro g cap w4 hown hgrow hat hglt
  refine hK g cap w4 hgrow.size (h.below.grown hgrow h.below.size (fun b hb => by have := (h.row.lt b hb).1; omega)) ((hgrow.block _ hbx (fun e => by have := (h.row.lt _ e.symm).1; omega)).trans h.box) ?_
  rw [List.length_append, List.map_append]
  exact hown
theorem take_snoc (D : List MOp) (q : Nat) (h : q < D.length) : D.take (q + 1) = D.take q ++ [D.getD q default] := by
  rw [List.take_succ_eq_append_getElem h]
  simp [List.getD, h]
/-- An operation in a box behind w. -/
structure Bg (w wr : World) (k : Int) (s : ByteArray) (x : Int) (lv : Value) (p q : Bool) : Prop where
  below : Below w.heap.size w wr
  box : wr.heap[w.heap.size]? = some (.cells #[.int .i64 k, .string s, .int .i64 x, lv, .bool p, .bool q] 31 (0, 0))
theorem Bg.later {w wr w' : World} {k : Int} {s : ByteArray} {x : Int} {lv : Value} {p q : Bool} (h : Bg w wr k s x lv p q) (hb : Below wr.heap.size wr w') : Bg w w' k s x lv p q :=
  ⟨h.below.trans (hb.mono h.below.size), (hb.block _ (Array.getElem?_eq_some_iff.1 h.box).1).trans h.box⟩
theorem Bg.set {w wr : World} {k : Int} {s : ByteArray} {x : Int} {lv : Value} {p q : Bool} (h : Bg w wr k s x lv p q) (x' : Int) (q' : Bool) : Bg w ((wr.setCell ⟨w.heap.size, 5, none⟩ (.bool q')).setCell ⟨w.heap.size, 2, none⟩ (.int .i64 x')) k s x' lv p q' := by
  have h1 := Go.Joins.block_setCell (i := 5) h.box (.bool q')
  have h2 := Go.Joins.block_setCell (i := 2) h1 (.int .i64 x')
  refine ⟨⟨h.below.os, h.below.tape, h.below.output, ?_, fun b hb' => ((set_ne (by show b ≠ w.heap.size; omega)).trans (set_ne (by show b ≠ w.heap.size; omega))).trans (h.below.block b hb')⟩, ?_⟩
  · have := h.below.size
    simpa [World.setCell] using this
  · simpa using h2
end Go.Proofs.Ytadlnkaphkbfdaa
