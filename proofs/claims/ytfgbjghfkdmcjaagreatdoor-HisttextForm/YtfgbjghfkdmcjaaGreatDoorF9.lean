/-
  The code's parser of a history's text: its box; the next token; giving up, which is a panic.
  The code's parser of a history's text: giving up, a panic with the fault; whether a token stands there.
  What stays beside a box.
  The code's parser of a history's text: whether a token stands there; a mark; a number.
  The code's parser of a history's text: a number, a process, a key.
  The code's parser of a history's text: a process.
  The code's parser of a history's text: a key.
  The code's parser of a history's text: the place of the next word among some; the words.
  The code's parser of a history's text: lists that grow beside the parser's box; a list of numbers.
-/
import Derived.Test.YtfgbjghfkdmcjaaGreatDoorF5
import Derived.Test.YtfgbjghfkdmcjaaGreatDoorF4
import Derived.Test.YtfgbjghfkdmcjaaGreatDoorF2
import Derived.Recover
import Derived.RegionTactic
import Derived.ChangeAlike
import Derived.Deep.QuietTactic
import Derived.BigQuiet
import Derived.WalkKit
import Derived.WalkLawsBesides
import Derived.Test.YtfgbjghfkdmcjaaGreatDoorF6
namespace Go.Proofs.YtfgbjghfkdmcjaaGreatDoor
set_option linter.unusedVariables false
set_option linter.unusedSimpArgs false
open Go.RowKit

/-- A token's cells. -/
def tkC (t : MTok) : List Value := [.int .i64 t.1, .int .i64 t.2.1, .string t.2.2.1, .int .i64 t.2.2.2]
/-- Tokens in memory, below bx. -/
def LeftP (bx : Nat) (w : World) (v : Value) (l : List MTok) : Prop :=
  ∃ ao c, v = .slice ao l.length c ∧ (0 < l.length → ∃ b off, ao = some ⟨b, off, none⟩ ∧ b < bx ∧ ∀ j, j < l.length → ∀ i u, (tkC (l.getD j default))[i]? = some u → w.cell? ⟨b, off + j * 4 + i, none⟩ = some u)
theorem LeftP.keep {bx : Nat} {w w' : World} {v : Value} {l : List MTok} (h : LeftP bx w v l) (hb : Below bx w w') : LeftP bx w' v l := by
  obtain ⟨ao, c, hv, hj⟩ := h
  refine ⟨ao, c, hv, fun h0 => ?_⟩
  obtain ⟨b, off, ha, hlt, hcs⟩ := hj h0
  exact ⟨b, off, ha, hlt, fun j hjl i u hi => (hb.cell (p := ⟨b, off + j * 4 + i, none⟩) hlt).trans (hcs j hjl i u hi)⟩
/-- The parser in its box: all tokens, the first that is not taken yet, the text's end. -/
structure PB (bx : Nat) (en : Int) (T : List MTok) (n : Nat) (w : World) : Prop where
  left : ∃ v, w.cell? ⟨bx, 0, none⟩ = some v ∧ LeftP bx w v T
  c1 : w.cell? ⟨bx, 1, none⟩ = some (.int .i64 n)
  c2 : w.cell? ⟨bx, 2, none⟩ = some (.int .i64 en)
  z1 : w.frozen? ⟨bx, 1, none⟩ = false
  le : n ≤ T.length
  few : T.length ≤ 20000
theorem PB.lt {bx n : Nat} {en : Int} {T : List MTok} {w : World} (h : PB bx en T n w) : bx < w.heap.size := World.block_lt_of_cell? _ _ h.c1
theorem PB.keep {bx n : Nat} {en : Int} {T : List MTok} {w w' : World} (h : PB bx en T n w) (hb : Below (bx + 1) w w') : PB bx en T n w' := by
  obtain ⟨v, h0, hl⟩ := h.left
  exact ⟨⟨v, (hb.cell (p := ⟨bx, 0, none⟩) (Nat.lt_succ_self _)).trans h0, hl.keep (hb.mono (Nat.le_succ _))⟩, (hb.cell (p := ⟨bx, 1, none⟩) (Nat.lt_succ_self _)).trans h.c1, (hb.cell (p := ⟨bx, 2, none⟩) (Nat.lt_succ_self _)).trans h.c2, (hb.frozen (p := ⟨bx, 1, none⟩) (Nat.lt_succ_self _)).trans h.z1, h.le, h.few⟩
theorem PB.take {bx n : Nat} {en : Int} {T : List MTok} {w : World} (h : PB bx en T n w) (hn : n < T.length) : PB bx en T (n + 1) (w.setCell ⟨bx, 1, none⟩ (.int .i64 ((n : Int) + 1))) := by
  obtain ⟨v, h0, hl⟩ := h.left
  refine ⟨⟨v, (World.cell?_setCell_other _ _ _ _ (by simp)).trans h0, hl.keep ((Below.refl _ _).setCell (p := ⟨bx, 1, none⟩) (Nat.le_refl _) _)⟩, ?_, (World.cell?_setCell_other _ _ _ _ (by simp)).trans h.c2, ?_, hn, h.few⟩
  · have := World.cell?_setCell_same w ⟨bx, 1, none⟩ (.int .i64 ((n : Int) + 1)) h.c1
    rw [this]; simp
  · exact (World.frozen?_setCell ..).trans h.z1
/-- The next token, or one of no kind at the text's end. -/
def lookT (en : Int) (T : List MTok) (n : Nat) : MTok := (T.drop n).headD (0, en, ByteArray.empty, 0)
abbrev tokV (t : MTok) : Value := .agg #[.int .i64 t.1, .int .i64 t.2.1, .string t.2.2.1, .int .i64 t.2.2.2]
theorem look_in {en : Int} {T : List MTok} {n : Nat} (h : n < T.length) : lookT en T n = T.getD n default := by
  unfold lookT
  rw [List.drop_eq_getElem_cons h]
  simp [List.getD, h]
theorem look_out {en : Int} {T : List MTok} {n : Nat} (h : ¬ n < T.length) : lookT en T n = (0, en, ByteArray.empty, 0) := by
  unfold lookT
  rw [List.drop_eq_nil_of_le (by omega)]
  rfl
theorem below_drewH {B : Nat} {w w' : World} (h : Below B w w') (k : Nat) : Below B w (w'.drewN k) := ⟨h.os, h.tape, h.output, h.size, h.block⟩
theorem below_four {B g : Nat} {w w' : World} (h : Below B w w') (hg : B ≤ g) (a0 a1 a2 a3 : Value) : Below B w ((((w'.setCell ⟨g, 0, none⟩ a0).setCell ⟨g, 1, none⟩ a1).setCell ⟨g, 2, none⟩ a2).setCell ⟨g, 3, none⟩ a3) :=
  (((h.setCell (p := ⟨g, 0, none⟩) hg _).setCell (p := ⟨g, 1, none⟩) hg _).setCell (p := ⟨g, 2, none⟩) hg _).setCell (p := ⟨g, 3, none⟩) hg _
set_option maxHeartbeats 2000000 in
set_option maxRecDepth 100000 in
theorem look_is (bx n : Nat) (en : Int) (T : List MTok) (w : World) (h : PB bx en T n w) :
    Calls Tryz.prog 36 #[.pointer (some ⟨bx, 0, none⟩)] w fun e w' => e = .returned (tokV (lookT en T n)) ∧ Below w.heap.size w w' := by
  obtain ⟨⟨v, c0, ao, c, rfl, hj⟩, c1, c2, z1, hle, hfew⟩ := h
  have hlt : bx < w.heap.size := World.block_lt_of_cell? _ _ c1
  have B1 : ∀ o, Below w.heap.size w (w.alloc o) := fun o => (Below.refl _ _).alloc (Nat.le_refl _) _
  by_cases hn : n < T.length
  · obtain ⟨b, off, rfl, hbb, hcs⟩ := hj (by omega)
    rw [look_in hn]
    have d0 : w.cell? ⟨b, off + n * 4, none⟩ = some (.int .i64 (T.getD n default).1) := hcs n hn 0 _ rfl
    have d1 : w.cell? ⟨b, off + n * 4 + 1, none⟩ = some (.int .i64 (T.getD n default).2.1) := hcs n hn 1 _ rfl
    have d2 : w.cell? ⟨b, off + n * 4 + 2, none⟩ = some (.string (T.getD n default).2.2.1) := hcs n hn 2 _ rfl
    have d3 : w.cell? ⟨b, off + n * 4 + 3, none⟩ = some (.int .i64 (T.getD n default).2.2.2) := hcs n hn 3 _ rfl
    generalize T.getD n default = t at d0 d1 d2 d3 ⊢
    have hn2 : (n : Int) < (T.length : Int) := by omega
    have hbw : b < w.heap.size := by omega
    clear hcs hj
    go_enter Tryz.func36, Tryz.ntmps36
    go_wp2_with fail
    go_quiet (fail)
    go_wp2_with fail
    go_region
    go_wp2_with fail
    refine bodyPost_ret (v := tokV t) (by simp [results, Tryz.results36, go_sem]) rfl ⟨rfl, ?_⟩
    exact below_four (below_drewH (B1 _) _) (Nat.le_refl _) _ _ _ _
  · rw [look_out hn]
    have hn2 : ¬ (n : Int) < (T.length : Int) := by omega
    clear hj
    go_enter Tryz.func36, Tryz.ntmps36
    go_wp2_with fail
    go_quiet (fail)
    go_wp2_with fail
    refine bodyPost_ret (v := tokV (0, en, ByteArray.empty, 0)) (by simp [results, Tryz.results36, go_sem]; rfl) rfl ⟨rfl, ?_⟩
    exact below_four (below_drewH (B1 _) _) (Nat.le_refl _) _ _ _ _
end Go.Proofs.YtfgbjghfkdmcjaaGreatDoor
namespace Go.Proofs.YtfgbjghfkdmcjaaGreatDoor
set_option linter.unusedVariables false
set_option linter.unusedSimpArgs false
open Go.RowKit

theorem look_at {en : Int} {T : List MTok} {n : Nat} : (lookT en T n).2.1 = nextAt en (T.drop n) := by
  unfold lookT
  cases T.drop n <;> rfl
theorem tokf1 (a b : Int) (c : ByteArray) (d : Int) (W : World) : (Instr.field 51 (.agg #[.int .i64 a, .int .i64 b, .string c, .int .i64 d]) 1).run Tryz.prog W = .ok (.int .i64 b) W := by kernel_rfl
/-- The ending of one who gave up. -/
abbrev gaveUp (a y : Int) : Ending := .panicked [{ v := .iface 38 (.agg #[.int .i64 a, .int .i64 y]), recovered := false }]
set_option maxHeartbeats 2000000 in
set_option maxRecDepth 100000 in
theorem giveUp_is (bx n : Nat) (en why : Int) (T : List MTok) (w : World) (h : PB bx en T n w) :
    Calls Tryz.prog 37 #[.pointer (some ⟨bx, 0, none⟩), .int .i64 why] w fun e w' => e = gaveUp (nextAt en (T.drop n)) why ∧ Below w.heap.size w w' := by
  have L := hid (look_is bx n en T w h)
  rw [← look_at]
  generalize lookT en T n = t at L ⊢
  clear h
  have tf := tokf1 t.1 t.2.1 t.2.2.1 t.2.2.2
  go_enter Tryz.func37, Tryz.ntmps37
  go_wp2_with (go_at_call 36; refine L.out.mono ?_; rintro e w2 ⟨rfl, b2⟩)
  exact ⟨rfl, rfl, by assumption⟩
end Go.Proofs.YtfgbjghfkdmcjaaGreatDoor
namespace Go.Proofs.YtfgbjghfkdmcjaaGreatDoor
set_option linter.unusedVariables false
set_option linter.unusedSimpArgs false
open Go.RowKit


/-- w' is w but for the block bx and new ones. -/
structure Beside (bx : Nat) (w w' : World) : Prop where
  os : w'.os = w.os
  tape : w'.tape = w.tape
  output : w'.output = w.output
  size : w.heap.size ≤ w'.heap.size
  block : ∀ k, k < w.heap.size → k ≠ bx → w'.heap[k]? = w.heap[k]?

theorem Beside.refl (bx : Nat) (w : World) : Beside bx w w := ⟨rfl, rfl, rfl, Nat.le_refl _, fun _ _ _ => rfl⟩
theorem Beside.of_below {bx : Nat} {w w' : World} (h : Below w.heap.size w w') : Beside bx w w' := ⟨h.os, h.tape, h.output, h.size, fun k hk _ => h.block k hk⟩
theorem Beside.trans {bx : Nat} {w w1 w2 : World} (h1 : Beside bx w w1) (h2 : Beside bx w1 w2) : Beside bx w w2 :=
  ⟨h2.os.trans h1.os, h2.tape.trans h1.tape, h2.output.trans h1.output, Nat.le_trans h1.size h2.size, fun k hk hn => (h2.block k (Nat.lt_of_lt_of_le hk h1.size) hn).trans (h1.block k hk hn)⟩
theorem Beside.below {bx B : Nat} {w w' : World} (h : Beside bx w w') (hb : B ≤ bx) (hs : B ≤ w.heap.size) : Below B w w' := ⟨h.os, h.tape, h.output, h.size, fun k hk => h.block k (by omega) (by omega)⟩
theorem Beside.cell {bx : Nat} {w w' : World} (h : Beside bx w w') {p : Addr} (hp : p.block < w.heap.size) (hn : p.block ≠ bx) : w'.cell? p = w.cell? p := World.cell?_of_block (w := w) (h.block _ hp hn)
theorem Beside.setCell {bx : Nat} {w w' : World} (h : Beside bx w w') {p : Addr} (hp : p.block = bx) (v : Value) : Beside bx w (w'.setCell p v) := by
  have hb : Below bx w' (w'.setCell p v) := (Below.refl bx w').setCell (p := p) (by omega) v
  refine ⟨hb.os.trans h.os, hb.tape.trans h.tape, hb.output.trans h.output, Nat.le_trans h.size hb.size, fun k hk hn => ?_⟩
  refine Eq.trans ?_ (h.block k hk hn)
  simp only [World.setCell, Array.getElem?_modify]
  rw [if_neg (by omega)]

theorem Beside.setNew {bx : Nat} {w w' : World} (h : Beside bx w w') {p : Addr} (hp : w.heap.size ≤ p.block) (v : Value) : Beside bx w (w'.setCell p v) := by
  have hb : Below w.heap.size w' (w'.setCell p v) := (Below.refl _ w').setCell (p := p) hp v
  exact ⟨hb.os.trans h.os, hb.tape.trans h.tape, hb.output.trans h.output, Nat.le_trans h.size hb.size, fun k hk hn => (hb.block k hk).trans (h.block k hk hn)⟩
theorem Beside.frozen {bx : Nat} {w w' : World} (h : Beside bx w w') {p : Addr} (hp : p.block < w.heap.size) (hn : p.block ≠ bx) : w'.frozen? p = w.frozen? p := by
  unfold World.frozen?
  rw [h.block _ hp hn]

end Go.Proofs.YtfgbjghfkdmcjaaGreatDoor
namespace Go.Proofs.YtfgbjghfkdmcjaaGreatDoor
set_option linter.unusedVariables false
set_option linter.unusedSimpArgs false
open Go.RowKit

theorem sees_look {en : Int} {T : List MTok} {n : Nat} {k : Int} {x : ByteArray} (hk : k ≠ 0) : ((lookT en T n).1 == k && (lookT en T n).2.2.1.toList == x.toList) = seesP (T.drop n) k x := by
  unfold lookT seesP
  cases T.drop n with
  | nil =>
    have : ((0 : Int) == k) = false := by simpa using fun h => hk h.symm
    show ((0 : Int) == k && _) = false
    rw [this, Bool.false_and]
  | cons t r => rfl
set_option maxHeartbeats 2000000 in
set_option maxRecDepth 100000 in
theorem sees_is (bx n : Nat) (en k : Int) (x : ByteArray) (T : List MTok) (w : World) (hk : k ≠ 0) (h : PB bx en T n w) :
    Calls Tryz.prog 59 #[.pointer (some ⟨bx, 0, none⟩), .int .i64 k, .string x] w fun e w' => e = .returned (.bool (seesP (T.drop n) k x)) ∧ Below w.heap.size w w' := by
  have L := hid (look_is bx n en T w h)
  rw [← sees_look (en := en) hk]
  generalize lookT en T n = t at L ⊢
  clear h
  by_cases h1 : t.1 = k
  · have h2 : (t.1 == k) = true := by simpa using h1
    rw [h2, Bool.true_and]
    go_enter Tryz.func59, Tryz.ntmps59
    go_wp2_with (go_at_call 36; refine L.out.mono ?_; rintro e w2 ⟨rfl, b2⟩)
    go_ret
    refine ⟨?_, ?_⟩
    · simp_all
    · exact b2.alloc b2.size _
  · have h2 : (t.1 == k) = false := by simpa using h1
    rw [h2, Bool.false_and]
    go_enter Tryz.func59, Tryz.ntmps59
    go_wp2_with (go_at_call 36; refine L.out.mono ?_; rintro e w2 ⟨rfl, b2⟩)
    go_ret
    refine ⟨?_, ?_⟩
    · simp_all
    · exact b2.alloc b2.size _
/-- What a part of the parser leaves: what it is, with the parser behind it; or it gave up. -/
def Told {α : Type} (bx : Nat) (en : Int) (T : List MTok) (w : World) (val : α → Value) (p : Ps α) (e : Ending) (w' : World) : Prop := match p with
  | .ok z => (∃ m, z.2 = T.drop m ∧ PB bx en T m w') ∧ e = .returned (val z.1) ∧ Beside bx w w'
  | .error f => e = gaveUp f.1 f.2 ∧ Beside bx w w'
theorem sees_lt {T : List MTok} {n : Nat} {k : Int} {x : ByteArray} (h : seesP (T.drop n) k x = true) : n < T.length := by
  by_cases hn : n < T.length
  · exact hn
  · rw [List.drop_eq_nil_of_le (by omega)] at h
    cases h
theorem PB.took {bx n : Nat} {en : Int} {T : List MTok} {w : World} (h : PB bx en T n w) (hn : n < T.length) : PB bx en T (n + 1) (w.setCell ⟨bx, 1, none⟩ (.int .i64 (RowKit.wrap64 ((n : Int) + 1)))) := by
  have h2 := h.few
  have : RowKit.wrap64 ((n : Int) + 1) = (n : Int) + 1 := by unfold RowKit.wrap64; omega
  rw [this]
  exact h.take hn
set_option maxHeartbeats 2000000 in
set_option maxRecDepth 100000 in
theorem mark_is (bx n : Nat) (en : Int) (x : ByteArray) (T : List MTok) (w : World) (h : PB bx en T n w) :
    Calls Tryz.prog 72 #[.pointer (some ⟨bx, 0, none⟩), .string x] w fun e w' => Told bx en T w (fun _ => .tuple #[]) (pMark en x (T.drop n)) e w' := by
  have hlt := h.lt
  have S := hid (sees_is bx n en 3 x T w (by decide) h)
  have H := hid h
  unfold pMark
  cases hs : seesP (T.drop n) 3 x with
  | false =>
    rw [hs] at S
    show Calls _ _ _ _ fun e w' => e = gaveUp (nextAt en (T.drop n)) 20 ∧ Beside bx w w'
    have G := hid (fun w2 (b : Below w.heap.size w w2) => giveUp_is bx n en 20 T w2 (h.keep (b.mono hlt)))
    clear h
    go_enter Tryz.func72, Tryz.ntmps72
    go_wp2_with (first | (go_at_call 59; refine S.out.mono ?_; rintro e w2 ⟨rfl, b2⟩) | (go_at_call 37; refine (G.out _ b2).mono ?_; rintro e w3 ⟨rfl, b3⟩))
    exact ⟨rfl, rfl, (Beside.of_below b2).trans (Beside.of_below b3)⟩
  | true =>
    rw [hs] at S
    have hn := sees_lt hs
    show Calls _ _ _ _ fun e w' => (∃ m, (T.drop n).tail = T.drop m ∧ PB bx en T m w') ∧ e = .returned (.tuple #[]) ∧ Beside bx w w'
    have K := hid (fun w2 (b : Below w.heap.size w w2) => h.keep (b.mono hlt))
    have c1 := fun w2 (b : Below w.heap.size w w2) => (h.keep (b.mono hlt)).c1
    have z1 := fun w2 (b : Below w.heap.size w w2) => (h.keep (b.mono hlt)).z1
    clear h
    go_enter Tryz.func72, Tryz.ntmps72
    go_wp2_with (first | (go_at_call 59; refine S.out.mono ?_; rintro e w2 ⟨rfl, b2⟩; have k1 := c1 _ b2; have y1 := z1 _ b2))
    exact bodyPost_end (results_none rfl _ _ _) rfl ⟨⟨n + 1, by simp, (K.out _ b2).took hn⟩, rfl, (Beside.of_below b2).setCell (p := ⟨bx, 1, none⟩) rfl _⟩
end Go.Proofs.YtfgbjghfkdmcjaaGreatDoor
namespace Go.Proofs.YtfgbjghfkdmcjaaGreatDoor
set_option linter.unusedVariables false
set_option linter.unusedSimpArgs false
open Go.RowKit

theorem drop_look {en : Int} {T : List MTok} {n : Nat} (h : (lookT en T n).1 ≠ 0) : n < T.length ∧ T.drop n = lookT en T n :: T.drop (n + 1) := by
  by_cases hn : n < T.length
  · refine ⟨hn, ?_⟩
    rw [look_in hn, List.drop_eq_getElem_cons hn]
    simp [List.getD, hn]
  · rw [look_out hn] at h
    exact absurd rfl h
set_option maxHeartbeats 2000000 in
set_option maxRecDepth 100000 in
theorem number_is (bx n : Nat) (en : Int) (T : List MTok) (w : World) (h : PB bx en T n w) :
    Calls Tryz.prog 74 #[.pointer (some ⟨bx, 0, none⟩)] w fun e w' => Told bx en T w (fun x => .int .i64 x) (pNum en (T.drop n)) e w' := by
  have hlt := h.lt
  have L := hid (look_is bx n en T w h)
  by_cases h2 : (lookT en T n).1 = 2
  · obtain ⟨hn, hd⟩ := drop_look (en := en) (T := T) (n := n) (by rw [h2]; decide)
    have hp : pNum en (T.drop n) = .ok ((lookT en T n).2.2.2, T.drop (n + 1)) := by rw [hd]; exact if_pos h2
    rw [hp]
    generalize lookT en T n = t at L h2 ⊢
    clear hp hd
    show Calls _ _ _ _ fun e w' => (∃ m, T.drop (n + 1) = T.drop m ∧ PB bx en T m w') ∧ e = .returned (.int .i64 t.2.2.2) ∧ Beside bx w w'
    have K := hid (fun w2 (b : Below w.heap.size w w2) => h.keep (b.mono hlt))
    have c1 := fun w2 (b : Below w.heap.size w w2) => (h.keep (b.mono hlt)).c1
    have z1 := fun w2 (b : Below w.heap.size w w2) => (h.keep (b.mono hlt)).z1
    clear h
    go_enter Tryz.func74, Tryz.ntmps74
    go_wp2_with fail
    go_at_call 36
    refine L.out.mono ?_
    rintro e w2 ⟨rfl, b2⟩
    have hs0 := b2.size
    have k1 : ∀ o, (w2.alloc o).cell? ⟨bx, 1, none⟩ = some (.int .i64 n) := fun o => c1 _ (b2.alloc hs0 o)
    have y1 : ∀ o, (w2.alloc o).frozen? ⟨bx, 1, none⟩ = false := fun o => z1 _ (b2.alloc hs0 o)
    have hs2 : bx < w2.heap.size := Nat.lt_of_lt_of_le hlt hs0
    have ne1 : ¬ bx = w2.heap.size := by omega
    have ne2 : ¬ w2.heap.size = bx := by omega
    go_wp2_with fail
    go_ret
    have q := (K.out _ b2).took hn
    exact ⟨⟨n + 1, rfl, q.keep ((below_box _ _).mono q.lt)⟩, rfl, ((Beside.of_below b2).setCell (p := ⟨bx, 1, none⟩) rfl _).trans (Beside.of_below (below_box _ _))⟩
  · have hp : pNum en (T.drop n) = .error (nextAt en (T.drop n), 20) := by
      by_cases hn : n < T.length
      · have hd : T.drop n = lookT en T n :: T.drop (n + 1) := by
          rw [look_in hn, List.drop_eq_getElem_cons hn]; simp [List.getD, hn]
        rw [hd]; exact if_neg h2
      · rw [List.drop_eq_nil_of_le (by omega)]; rfl
    rw [hp]
    generalize lookT en T n = t at L h2 ⊢
    clear hp
    show Calls _ _ _ _ fun e w' => e = gaveUp (nextAt en (T.drop n)) 20 ∧ Beside bx w w'
    have G := hid (fun w2 (b : Below w.heap.size w w2) => giveUp_is bx n en 20 T w2 (h.keep (b.mono hlt)))
    clear h
    go_enter Tryz.func74, Tryz.ntmps74
    go_wp2_with (first | (go_at_call 36; refine L.out.mono ?_; rintro e w2 ⟨rfl, b2⟩) | (go_at_call 37; refine (G.out _ (b2.alloc b2.size _)).mono ?_; rintro e w3 ⟨rfl, b3⟩))
    exact ⟨rfl, rfl, (Beside.of_below (b2.alloc b2.size _)).trans (Beside.of_below b3)⟩
end Go.Proofs.YtfgbjghfkdmcjaaGreatDoor
namespace Go.Proofs.YtfgbjghfkdmcjaaGreatDoor
set_option linter.unusedVariables false
set_option linter.unusedSimpArgs false
open Go.RowKit

theorem proc_not {en : Int} {T : List MTok} {n : Nat} (h : ¬ ((lookT en T n).1 = 2 ∧ 0 ≤ (lookT en T n).2.2.2 ∧ (lookT en T n).2.2.2 ≤ 99)) : pProc en (T.drop n) = .error (nextAt en (T.drop n), 20) := by
  by_cases hn : n < T.length
  · have hd : T.drop n = lookT en T n :: T.drop (n + 1) := by
      rw [look_in hn, List.drop_eq_getElem_cons hn]; simp [List.getD, hn]
    rw [hd]; exact if_neg h
  · rw [List.drop_eq_nil_of_le (by omega)]; rfl
set_option maxHeartbeats 2000000 in
set_option maxRecDepth 100000 in
theorem process_is (bx n : Nat) (en : Int) (T : List MTok) (w : World) (h : PB bx en T n w) :
    Calls Tryz.prog 57 #[.pointer (some ⟨bx, 0, none⟩)] w fun e w' => Told bx en T w (fun x => .int .i64 x) (pProc en (T.drop n)) e w' := by
  have hlt := h.lt
  have L := hid (look_is bx n en T w h)
  by_cases hok : (lookT en T n).1 = 2 ∧ 0 ≤ (lookT en T n).2.2.2 ∧ (lookT en T n).2.2.2 ≤ 99
  · obtain ⟨hn, hd⟩ := drop_look (en := en) (T := T) (n := n) (by rw [hok.1]; decide)
    have hp : pProc en (T.drop n) = .ok ((lookT en T n).2.2.2, T.drop (n + 1)) := by rw [hd]; exact if_pos hok
    rw [hp]
    generalize lookT en T n = t at L hok ⊢
    clear hp hd
    obtain ⟨h2, h3, h4⟩ := hok
    have P := hid (isProcess_any t.2.2.2)
    have hb : (decide (0 ≤ t.2.2.2) && decide (t.2.2.2 ≤ 99)) = true := by simp [h3, h4]
    rw [hb] at P
    show Calls _ _ _ _ fun e w' => (∃ m, T.drop (n + 1) = T.drop m ∧ PB bx en T m w') ∧ e = .returned (.int .i64 t.2.2.2) ∧ Beside bx w w'
    have K := hid (fun w2 (b : Below w.heap.size w w2) => h.keep (b.mono hlt))
    have c1 := fun w2 (b : Below w.heap.size w w2) => (h.keep (b.mono hlt)).c1
    have z1 := fun w2 (b : Below w.heap.size w w2) => (h.keep (b.mono hlt)).z1
    clear h
    go_enter Tryz.func57, Tryz.ntmps57
    go_wp2_with fail
    go_at_call 36
    refine L.out.mono ?_
    rintro e w2 ⟨rfl, b2⟩
    have hs0 := b2.size
    have k1 : ∀ o, (w2.alloc o).cell? ⟨bx, 1, none⟩ = some (.int .i64 n) := fun o => c1 _ (b2.alloc hs0 o)
    have y1 : ∀ o, (w2.alloc o).frozen? ⟨bx, 1, none⟩ = false := fun o => z1 _ (b2.alloc hs0 o)
    have hs2 : bx < w2.heap.size := Nat.lt_of_lt_of_le hlt hs0
    have ne1 : ¬ bx = w2.heap.size := by omega
    have ne2 : ¬ w2.heap.size = bx := by omega
    go_wp2_with (go_at_call 65; refine (P.out _).mono ?_; rintro e w3 ⟨rfl, rfl⟩)
    go_ret
    have q := (K.out _ b2).took hn
    exact ⟨⟨n + 1, rfl, q.keep ((below_box _ _).mono q.lt)⟩, rfl, ((Beside.of_below b2).setCell (p := ⟨bx, 1, none⟩) rfl _).trans (Beside.of_below (below_box _ _))⟩
  · rw [proc_not hok]
    generalize lookT en T n = t at L hok ⊢
    show Calls _ _ _ _ fun e w' => e = gaveUp (nextAt en (T.drop n)) 20 ∧ Beside bx w w'
    have G := hid (fun w2 (b : Below w.heap.size w w2) => giveUp_is bx n en 20 T w2 (h.keep (b.mono hlt)))
    clear h
    by_cases h2 : t.1 = 2
    · have P := hid (isProcess_any t.2.2.2)
      have hb : (decide (0 ≤ t.2.2.2) && decide (t.2.2.2 ≤ 99)) = false := by
        rw [Bool.and_eq_false_iff, decide_eq_false_iff_not, decide_eq_false_iff_not]
        omega
      rw [hb] at P
      clear hok hb
      go_enter Tryz.func57, Tryz.ntmps57
      go_wp2_with (first | (go_at_call 36; refine L.out.mono ?_; rintro e w2 ⟨rfl, b2⟩) | (go_at_call 65; refine (P.out _).mono ?_; rintro e w3 ⟨rfl, rfl⟩) | (go_at_call 37; refine (G.out _ (b2.alloc b2.size _)).mono ?_; rintro e w3 ⟨rfl, b3⟩))
      exact ⟨rfl, rfl, (Beside.of_below (b2.alloc b2.size _)).trans (Beside.of_below b3)⟩
    · clear hok
      go_enter Tryz.func57, Tryz.ntmps57
      go_wp2_with (first | (go_at_call 36; refine L.out.mono ?_; rintro e w2 ⟨rfl, b2⟩) | (go_at_call 37; refine (G.out _ (b2.alloc b2.size _)).mono ?_; rintro e w3 ⟨rfl, b3⟩))
      exact ⟨rfl, rfl, (Beside.of_below (b2.alloc b2.size _)).trans (Beside.of_below b3)⟩
end Go.Proofs.YtfgbjghfkdmcjaaGreatDoor
namespace Go.Proofs.YtfgbjghfkdmcjaaGreatDoor
set_option linter.unusedVariables false
set_option linter.unusedSimpArgs false
open Go.RowKit

theorem key_not {en : Int} {T : List MTok} {n : Nat} (h : ¬ ((lookT en T n).1 = 1 ∧ keyOk (lookT en T n).2.2.1 = true)) : pKey en (T.drop n) = .error (nextAt en (T.drop n), 20) := by
  by_cases hn : n < T.length
  · have hd : T.drop n = lookT en T n :: T.drop (n + 1) := by
      rw [look_in hn, List.drop_eq_getElem_cons hn]; simp [List.getD, hn]
    rw [hd]; exact if_neg h
  · rw [List.drop_eq_nil_of_le (by omega)]; rfl
set_option maxHeartbeats 2000000 in
set_option maxRecDepth 100000 in
theorem key_is (bx n : Nat) (en : Int) (T : List MTok) (w : World) (h : PB bx en T n w) :
    Calls Tryz.prog 73 #[.pointer (some ⟨bx, 0, none⟩)] w fun e w' => Told bx en T w (fun x => .string x) (pKey en (T.drop n)) e w' := by
  have hlt := h.lt
  have L := hid (look_is bx n en T w h)
  by_cases hok : (lookT en T n).1 = 1 ∧ keyOk (lookT en T n).2.2.1 = true
  · obtain ⟨hn, hd⟩ := drop_look (en := en) (T := T) (n := n) (by rw [hok.1]; decide)
    have hp : pKey en (T.drop n) = .ok ((lookT en T n).2.2.1, T.drop (n + 1)) := by rw [hd]; exact if_pos hok
    rw [hp]
    generalize lookT en T n = t at L hok ⊢
    clear hp hd
    obtain ⟨h2, h3⟩ := hok
    have P := hid (isKey_all t.2.2.1)
    rw [h3] at P
    show Calls _ _ _ _ fun e w' => (∃ m, T.drop (n + 1) = T.drop m ∧ PB bx en T m w') ∧ e = .returned (.string t.2.2.1) ∧ Beside bx w w'
    have K := hid (fun w2 (b : Below w.heap.size w w2) => h.keep (b.mono hlt))
    have c1 := fun w2 (b : Below w.heap.size w w2) => (h.keep (b.mono hlt)).c1
    have z1 := fun w2 (b : Below w.heap.size w w2) => (h.keep (b.mono hlt)).z1
    clear h
    go_enter Tryz.func73, Tryz.ntmps73
    go_wp2_with fail
    go_at_call 36
    refine L.out.mono ?_
    rintro e w2 ⟨rfl, b2⟩
    have hs0 := b2.size
    have B2 := hid b2
    clear b2
    have hs2 : bx < w2.heap.size := Nat.lt_of_lt_of_le hlt hs0
    have ne1 : ¬ bx = w2.heap.size := by omega
    have ne2 : ¬ w2.heap.size = bx := by omega
    go_wp2_with fail
    go_at_call 76
    refine (P.out _).mono ?_
    rintro e w3 ⟨rfl, b3⟩
    have d2 : w3.cell? ⟨w2.heap.size, 2, none⟩ = some (.string t.2.2.1) := (b3.cell (p := ⟨w2.heap.size, 2, none⟩) (by simp)).trans (new_cells w2 _ 51 2)
    have B3 : Hid (Below w.heap.size w w3) := (B2.out.alloc hs0 _).trans (b3.mono (by simp; omega))
    clear b3
    have k1 := c1 _ B3.out
    have y1 := z1 _ B3.out
    go_wp2_with fail
    go_ret
    exact ⟨⟨n + 1, rfl, (K.out _ B3.out).took hn⟩, rfl, (Beside.of_below B3.out).setCell (p := ⟨bx, 1, none⟩) rfl _⟩
  · rw [key_not hok]
    generalize lookT en T n = t at L hok ⊢
    show Calls _ _ _ _ fun e w' => e = gaveUp (nextAt en (T.drop n)) 20 ∧ Beside bx w w'
    have G := hid (fun w2 (b : Below w.heap.size w w2) => giveUp_is bx n en 20 T w2 (h.keep (b.mono hlt)))
    clear h
    by_cases h2 : t.1 = 1
    · have P := hid (isKey_all t.2.2.1)
      have hb : keyOk t.2.2.1 = false := by
        cases hk : keyOk t.2.2.1 with
        | false => rfl
        | true => exact absurd ⟨h2, hk⟩ hok
      rw [hb] at P
      clear hok hb
      go_enter Tryz.func73, Tryz.ntmps73
      go_wp2_with (first | (go_at_call 36; refine L.out.mono ?_; rintro e w2 ⟨rfl, b2⟩; have hs0 := b2.size; have B2 := hid b2; clear b2) | (go_at_call 76; refine (P.out _).mono ?_; rintro e w3 ⟨rfl, b3⟩; have B3 : Hid (Below w.heap.size w w3) := (B2.out.alloc hs0 _).trans (b3.mono (by simp; omega)); clear b3) | (go_at_call 37; refine (G.out _ B3.out).mono ?_; rintro e w4 ⟨rfl, b4⟩))
      exact ⟨rfl, rfl, (Beside.of_below B3.out).trans (Beside.of_below b4)⟩
    · clear hok
      go_enter Tryz.func73, Tryz.ntmps73
      go_wp2_with (first | (go_at_call 36; refine L.out.mono ?_; rintro e w2 ⟨rfl, b2⟩) | (go_at_call 37; refine (G.out _ (b2.alloc b2.size _)).mono ?_; rintro e w3 ⟨rfl, b3⟩))
      exact ⟨rfl, rfl, (Beside.of_below (b2.alloc b2.size _)).trans (Beside.of_below b3)⟩
end Go.Proofs.YtfgbjghfkdmcjaaGreatDoor
namespace Go.Proofs.YtfgbjghfkdmcjaaGreatDoor
set_option linter.unusedVariables false
set_option linter.unusedSimpArgs false
open Go.RowKit

abbrev wdV (x0 x1 x2 x3 x4 : ByteArray) : Value := .agg #[.string x0, .string x1, .string x2, .string x3, .string x4]
theorem wd_at (x0 x1 x2 x3 x4 : ByteArray) (k : Nat) (h : k < 5) (W : World) : Sem.run Tryz.prog (Instr.index 65 (.agg #[.string x0, .string x1, .string x2, .string x3, .string x4]) (.int .i64 k)) W = .ok (.string ([x0, x1, x2, x3, x4].getD k ByteArray.empty)) W := by
  match k, h with
  | 0, _ => simp [Instr.index, run_underlying Tryz.underlying65, go_sem]
  | 1, _ => simp [Instr.index, run_underlying Tryz.underlying65, go_sem]
  | 2, _ => simp [Instr.index, run_underlying Tryz.underlying65, go_sem]
  | 3, _ => simp [Instr.index, run_underlying Tryz.underlying65, go_sem]
  | 4, _ => simp [Instr.index, run_underlying Tryz.underlying65, go_sem]
theorem kind_step {en : Int} {l : List MTok} {k : Nat} {ws : List ByteArray} (h : k < ws.length) : pKind en l k (ws.drop k) = if seesP l 1 (ws.getD k ByteArray.empty) then .ok ((k : Int), l.tail) else pKind en l (k + 1) (ws.drop (k + 1)) := by
  rw [List.drop_eq_getElem_cons h]
  have : ws.getD k ByteArray.empty = ws[k] := by simp [List.getD, h]
  rw [this]
  rfl
set_option maxHeartbeats 2000000 in
set_option maxRecDepth 100000 in
theorem kind_is (bx n : Nat) (en : Int) (T : List MTok) (w : World) (x0 x1 x2 x3 x4 : ByteArray) (h : PB bx en T n w) :
    Calls Tryz.prog 56 #[.pointer (some ⟨bx, 0, none⟩), .agg #[.string x0, .string x1, .string x2, .string x3, .string x4]] w fun e w' => Told bx en T w (fun x => .int .i64 x) (pKind en (T.drop n) 0 [x0, x1, x2, x3, x4]) e w' := by
  have hlt := h.lt
  have S := hid (fun w2 x (b : Below w.heap.size w w2) => sees_is bx n en 1 x T w2 (by decide) (h.keep (b.mono hlt)))
  have G := hid (fun w2 (b : Below w.heap.size w w2) => giveUp_is bx n en 20 T w2 (h.keep (b.mono hlt)))
  have K := hid (fun w2 (b : Below w.heap.size w w2) => h.keep (b.mono hlt))
  have c1 := fun w2 (b : Below w.heap.size w w2) => (h.keep (b.mono hlt)).c1
  have z1 := fun w2 (b : Below w.heap.size w w2) => (h.keep (b.mono hlt)).z1
  have B0 := hid (fun o => below_box w o)
  clear h
  go_enter Tryz.func56, Tryz.ntmps56
  go_wp2_with fail
  go_loopg [5, 6, 8] 5 (fun m _ _ i wr => ∃ k : Nat, k ≤ 5 ∧ 5 - k ≤ m ∧ i = .int .i64 k ∧ Aside (Below w.heap.size w wr) ∧ Aside (pKind en (T.drop n) 0 [x0, x1, x2, x3, x4] = pKind en (T.drop n) k ([x0, x1, x2, x3, x4].drop k)))
  case atStart => exact ⟨0, Nat.zero_le _, by omega, rfl, B0.out _, rfl⟩
  case round =>
    obtain ⟨k, hk, hg, rfl, BW, HW⟩ := hrel
    by_cases hlt5 : k < 5
    · have hlti : (k : Int) < 5 := by omega
      have ix := wd_at x0 x1 x2 x3 x4 k hlt5
      have hst := kind_step (en := en) (l := T.drop n) (k := k) (ws := [x0, x1, x2, x3, x4]) hlt5
      have HST := hid hst
      clear hst
      generalize [x0, x1, x2, x3, x4].getD k ByteArray.empty = x at ix HST
      have S2 := hid (S.out wr x BW.out)
      cases hs : seesP (T.drop n) 1 x with
      | true =>
        have hn := sees_lt hs
        rw [hs] at S2 HST
        have HE : Hid (pKind en (T.drop n) 0 [x0, x1, x2, x3, x4] = .ok ((k : Int), (T.drop n).tail)) := HW.out.trans (HST.out.trans (if_pos rfl))
        clear HST
        go_wp2_with fail
        go_at_call 59
        refine S2.out.mono ?_
        rintro e w2 ⟨rfl, b2⟩
        have B2 : Hid (Below w.heap.size w w2) := BW.out.trans (b2.mono BW.out.size)
        clear b2
        have k1 := c1 _ B2.out
        have y1 := z1 _ B2.out
        go_wp2_with fail
        rw [HE.out]
        go_ret
        exact ⟨⟨n + 1, by simp, (K.out _ B2.out).took hn⟩, rfl, (Beside.of_below B2.out).setCell (p := ⟨bx, 1, none⟩) rfl _⟩
      | false =>
        rw [hs] at S2 HST
        have HE : Hid (pKind en (T.drop n) 0 [x0, x1, x2, x3, x4] = pKind en (T.drop n) (k + 1) ([x0, x1, x2, x3, x4].drop (k + 1))) := HW.out.trans (HST.out.trans (if_neg (by decide)))
        clear HST
        go_wp2_with fail
        go_at_call 59
        refine S2.out.mono ?_
        rintro e w2 ⟨rfl, b2⟩
        have B2 : Hid (Below w.heap.size w w2) := BW.out.trans (b2.mono BW.out.size)
        clear b2
        go_wp2_with fail
        go_roundg (5 - (k + 1))
        case measure => omega
        case rel => exact ⟨k + 1, by omega, by omega, by go_num, B2.out, HE.out⟩
    · have hlti : ¬ (k : Int) < 5 := by omega
      have HE : Hid (pKind en (T.drop n) 0 [x0, x1, x2, x3, x4] = .error (nextAt en (T.drop n), 20)) := by
        show _ = _
        have hd : [x0, x1, x2, x3, x4].drop k = [] := List.drop_eq_nil_of_le (by show 5 ≤ k; omega)
        rw [HW.out, hd]
        rfl
      go_wp2_with fail
      go_at_call 37
      refine (G.out _ BW.out).mono ?_
      rintro e w2 ⟨rfl, b2⟩
      refine ⟨rfl, ?_⟩
      show Told bx en T w _ (pKind en (T.drop n) 0 [x0, x1, x2, x3, x4]) _ _
      rw [HE.out]
      exact ⟨rfl, (Beside.of_below BW.out).trans (Beside.of_below b2)⟩
theorem evWords_is (w : World) : Calls Tryz.prog 24 #[] w fun e w' => e = .returned (wdV ⟨#[]⟩ ⟨#[105, 110, 118, 111, 107, 101]⟩ ⟨#[111, 107]⟩ ⟨#[102, 97, 105, 108]⟩ ⟨#[105, 110, 102, 111]⟩) ∧ Below w.heap.size w w' := by
  go_enter Tryz.func24, Tryz.ntmps24
  go_wp2_with fail
  refine bodyPost_ret (v := wdV ⟨#[]⟩ ⟨#[105, 110, 118, 111, 107, 101]⟩ ⟨#[111, 107]⟩ ⟨#[102, 97, 105, 108]⟩ ⟨#[105, 110, 102, 111]⟩) (by simp [results, Tryz.results24, go_sem]) rfl ⟨rfl, ?_⟩
  repeat' (first | exact below_box _ _ | refine Below.setCell ?_ (Nat.le_refl _) _)
theorem opWords_is (w : World) : Calls Tryz.prog 47 #[] w fun e w' => e = .returned (wdV ⟨#[]⟩ ⟨#[97, 112, 112, 101, 110, 100]⟩ ⟨#[114, 101, 97, 100]⟩ ⟨#[119, 114, 105, 116, 101]⟩ ⟨#[103, 101, 116]⟩) ∧ Below w.heap.size w w' := by
  go_enter Tryz.func47, Tryz.ntmps47
  go_wp2_with fail
  refine bodyPost_ret (v := wdV ⟨#[]⟩ ⟨#[97, 112, 112, 101, 110, 100]⟩ ⟨#[114, 101, 97, 100]⟩ ⟨#[119, 114, 105, 116, 101]⟩ ⟨#[103, 101, 116]⟩) (by simp [results, Tryz.results47, go_sem]) rfl ⟨rfl, ?_⟩
  repeat' (first | exact below_box _ _ | refine Below.setCell ?_ (Nat.le_refl _) _)
end Go.Proofs.YtfgbjghfkdmcjaaGreatDoor
namespace Go.Proofs.YtfgbjghfkdmcjaaGreatDoor
set_option linter.unusedVariables false
set_option linter.unusedSimpArgs false
open Go.RowKit

/-- What a part of the parser leaves, where its value leads to memory. -/
def ToldR {α : Type} (bx : Nat) (en : Int) (T : List MTok) (w : World) (R : α → Value → World → Prop) (p : Ps α) (e : Ending) (w' : World) : Prop := match p with
  | .ok z => (∃ m, z.2 = T.drop m ∧ PB bx en T m w') ∧ (∃ v, e = .returned v ∧ R z.1 v w') ∧ Beside bx w w'
  | .error f => e = gaveUp f.1 f.2 ∧ Beside bx w w'
theorem Beside.keepsIn {bx B : Nat} {w w' : World} (h : Beside bx w w') (hB : bx < B) (S : Nat → Prop) (hS : ∀ b, S b → B ≤ b) : KeepsIn S w w' := fun b hb hlt => h.block b hlt (by have := hS b hb; omega)
theorem Beside.later {bx : Nat} {w w3 w4 : World} (h : Beside bx w w3) (hb : Below w.heap.size w3 w4) : Beside bx w w4 :=
  ⟨hb.os.trans h.os, hb.tape.trans h.tape, hb.output.trans h.output, Nat.le_trans h.size hb.size, fun k hk hn => (hb.block k hk).trans (h.block k hk hn)⟩
section
variable {α : Type} [Inhabited α] {e size : Nat} {R : (Nat → Prop) → World → List Value → α → Prop} {B bx : Nat} {wr w3 w4 : World} {v : Value} {n : Nat} {rows : List (List Value)} {l : List α}
theorem OutInv.beside (hkeep : ∀ (S T : Nat → Prop) w w' cs x, R S w cs x → KeepsIn S w w' → (∀ b, b < w.heap.size → S b → T b) → R T w' cs x) (h : OutInv e size R B wr v n rows l) (hb : Beside bx wr w3) (hB : bx < B) : OutInv e size R B w3 v n rows l :=
  ⟨h.rn, h.ln, owns_keep h.own (fun g hg => hb.block g (h.own.lt g hg).2 (by have := (h.own.lt g hg).1; omega)), h.sizes, fun j hj => hkeep _ _ _ _ _ _ (h.each j hj) (hb.keepsIn hB _ (fun b hS => hS.1)) (fun _ _ h => h)⟩
theorem OutInv.grow (hkeep : ∀ (S T : Nat → Prop) w w' cs x, R S w cs x → KeepsIn S w w' → (∀ b, b < w.heap.size → S b → T b) → R T w' cs x)
    (h : OutInv e size R B wr v n rows l) (hB : B ≤ wr.heap.size) (hbx : bx < B) (h3 : Beside bx wr w3) {row : List Value} {x : α} (hrow : R (fun b => wr.heap.size ≤ b) w3 row x) (hlen : row.length = size)
    {g cap : Nat} (hown : w4.ownsRow B e size (.slice (some ⟨g, 0, none⟩) (n + 1) cap) (n + 1) (rows.flatten ++ row)) (hgrow : w3.grownBy w4 v.ownBlock) (hat : v.ownBlock = some g ∨ g = w3.heap.size) :
    OutInv e size R B w4 (.slice (some ⟨g, 0, none⟩) (n + 1) cap) (n + 1) (rows ++ [row]) (l ++ [x]) := by
  have hsz := h3.size
  have hlt : ∀ k, v.ownBlock = some k → k < wr.heap.size := fun k hk => (h.own.lt k hk).2
  refine ⟨by simp [h.rn], by simp [h.ln], by simpa using hown, ?_, fun j hj => ?_⟩
  · intro r hr
    rcases List.mem_append.1 hr with hr | hr
    · exact h.sizes r hr
    · simp at hr; rw [hr]; exact hlen
  · by_cases hjn : j < n
    · have e1 : (rows ++ [row]).getD j [] = rows.getD j [] := by simp [List.getD, List.getElem?_append_left (show j < rows.length by rw [h.rn]; exact hjn)]
      have e2 : (l ++ [x]).getD j default = l.getD j default := by simp [List.getD, List.getElem?_append_left (show j < l.length by rw [h.ln]; exact hjn)]
      rw [e1, e2]
      refine hkeep _ _ wr w4 _ _ (h.each j hjn) (fun b hb hbl => ?_) (fun b hbl hb => ⟨hb.1, ?_⟩)
      · exact (hgrow.block b (by omega) (fun e => hb.2 e.symm)).trans (h3.block b hbl (by have := hb.1; omega))
      · simp only [Value.ownBlock]
        intro e
        cases e
        rcases hat with h' | h'
        · exact hb.2 h'
        · omega
    · have hjn' : j = n := by omega
      subst hjn'
      have e1 : (rows ++ [row]).getD j [] = row := by simp [List.getD, ← h.rn]
      have e2 : (l ++ [x]).getD j default = x := by simp [List.getD, ← h.ln]
      rw [e1, e2]
      refine hkeep _ _ w3 w4 _ _ hrow (fun b hb hbl => ?_) (fun b hbl hb => ⟨by omega, ?_⟩)
      · exact hgrow.block b hbl (fun e => by have := hlt b e.symm; omega)
      · simp only [Value.ownBlock]
        intro e
        cases e
        rcases hat with h' | h'
        · have := hlt _ h'; omega
        · omega
theorem OutInv.sliceV (h : OutInv e size R B wr v n rows l) : ∃ a c, v = .slice a n c := by
  rcases h.own.2 with ⟨hv, hn⟩ | ⟨g, cap, cur, hv, _⟩
  · exact ⟨none, 0, by rw [hv, hn]⟩
  · exact ⟨_, cap, hv⟩
end
/-- The cell of a number. -/
def RI (S : Nat → Prop) (w : World) (cs : List Value) (x : Int) : Prop := cs = [.int .i64 x]
theorem ri_keep (S T : Nat → Prop) (w w' : World) (cs : List Value) (x : Int) (h : RI S w cs x) (_ : KeepsIn S w w') (_ : ∀ b, b < w.heap.size → S b → T b) : RI T w' cs x := h
theorem ints_of_out {B n : Nat} {w : World} {v : Value} {rows : List (List Value)} {l : List Int} (h : OutInv 3 1 RI B w v n rows l) (hn : n * 8 ≤ 140737488355328) : IntsIn (fun b => B ≤ b) w v l := by
  obtain ⟨ao, c, hv, hl, hc⟩ := h.rows_in ri_keep hn
  refine ⟨ao, c, hv, hl, fun h0 => ?_⟩
  obtain ⟨b, off, ha, hb, hj⟩ := hc h0
  refine ⟨b, off, ha, hb, fun j hjl => ?_⟩
  obtain ⟨cs, hlen, hr, hcs⟩ := hj j hjl
  have hr2 : cs = [.int .i64 (l.getD j default)] := hr
  subst hr2
  have := hcs 0 _ rfl
  simpa using this
theorem pNums_more {en : Int} {T : List MTok} {k : Nat} {acc : List Int} (h2 : (lookT en T k).1 = 2) (h40 : ¬ acc.length = 40) : pNums en (T.drop k) acc = pNums en (T.drop (k + 1)) (acc ++ [(lookT en T k).2.2.2]) := by
  obtain ⟨hn, hd⟩ := drop_look (en := en) (T := T) (n := k) (by rw [h2]; decide)
  rw [hd]
  show (if (lookT en T k).1 = 2 then _ else _) = _
  rw [if_pos h2, if_neg h40]
theorem pNums_full {en : Int} {T : List MTok} {k : Nat} {acc : List Int} (h2 : (lookT en T k).1 = 2) (h40 : acc.length = 40) : pNums en (T.drop k) acc = .error (nextAt en (T.drop k), 4) := by
  obtain ⟨hn, hd⟩ := drop_look (en := en) (T := T) (n := k) (by rw [h2]; decide)
  rw [hd]
  show (if (lookT en T k).1 = 2 then _ else _) = _
  rw [if_pos h2, if_pos h40]
  rfl
theorem pNums_end {en : Int} {T : List MTok} {k : Nat} {acc : List Int} (h2 : ¬ (lookT en T k).1 = 2) : pNums en (T.drop k) acc = .ok (acc, T.drop k) := by
  by_cases hn : k < T.length
  · have hd : T.drop k = lookT en T k :: T.drop (k + 1) := by
      rw [look_in hn, List.drop_eq_getElem_cons hn]; simp [List.getD, hn]
    rw [hd]
    show (if (lookT en T k).1 = 2 then _ else _) = _
    rw [if_neg h2]
  · rw [List.drop_eq_nil_of_le (by omega)]; rfl
theorem pNum_ok {en : Int} {T : List MTok} {k : Nat} (h2 : (lookT en T k).1 = 2) : pNum en (T.drop k) = .ok ((lookT en T k).2.2.2, T.drop (k + 1)) := by
  obtain ⟨hn, hd⟩ := drop_look (en := en) (T := T) (n := k) (by rw [h2]; decide)
  rw [hd]
  exact if_pos h2
theorem tokf0 (a b : Int) (c : ByteArray) (d : Int) (W : World) : (Instr.field 51 (.agg #[.int .i64 a, .int .i64 b, .string c, .int .i64 d]) 0).run Tryz.prog W = .ok (.int .i64 a) W := by kernel_rfl
def pTail (en : Int) (p : Ps (List Int)) : Ps (List Int) := andP p fun xs l2 => andP (pMark en ⟨#[41]⟩ l2) fun _ l3 => .ok (xs, l3)
theorem pList_err {en : Int} {l : List MTok} {f : Int × Int} (h : pMark en ⟨#[40]⟩ l = .error f) : pList en l = .error f := by unfold pList; rw [h]; rfl
theorem pList_ok {en : Int} {l l1 : List MTok} {u : Unit} (h : pMark en ⟨#[40]⟩ l = .ok (u, l1)) : pList en l = pTail en (pNums en l1 []) := by unfold pList; rw [h]; rfl
set_option maxHeartbeats 4000000 in
set_option maxRecDepth 100000 in
theorem list_is (bx n : Nat) (en : Int) (T : List MTok) (w : World) (h : PB bx en T n w) :
    Calls Tryz.prog 75 #[.pointer (some ⟨bx, 0, none⟩)] w (ToldR bx en T w (fun xs v w' => IntsIn (fun b => w.heap.size ≤ b) w' v xs) (pList en (T.drop n))) := by
  have hlt := h.lt
  have M1 := hid (mark_is bx n en ⟨#[40]⟩ T w h)
  clear h
  cases hp : pMark en ⟨#[40]⟩ (T.drop n) with
  | error f =>
    rw [pList_err hp]
    rw [hp] at M1
    go_enter Tryz.func75, Tryz.ntmps75
    go_wp2_with fail
    go_at_call 72
    refine M1.out.mono ?_
    rintro e w1 ⟨rfl, b1⟩
    exact ⟨rfl, rfl, b1⟩
  | ok z =>
    obtain ⟨u, l1⟩ := z
    rw [pList_ok hp]
    rw [hp] at M1
    obtain ⟨i0, hi, hz0, hz1, hz2⟩ := info_parts Tryz.infoInt
    have HI := hid hi
    have HZ0 := hid hz0
    have HZ1 := hid hz1
    have HZ2 := hid hz2
    clear hi hz0 hz1 hz2
    go_enter Tryz.func75, Tryz.ntmps75
    go_wp2_with fail
    go_at_call 72
    refine M1.out.mono ?_
    rintro e w1 ⟨⟨m1, hm1, P1⟩, rfl, b1⟩
    have hm1' : l1 = T.drop m1 := hm1
    subst hm1'
    clear hm1 hp M1
    have P1H := hid P1
    have B1 := hid b1
    have hs1 := b1.size
    clear P1 b1
    go_wp2_with fail
    go_loopg [3] (T.length + 1) (fun m lv wr => ∃ (k : Nat) (acc : List Int) (rows : List (List Value)), T.length + 1 - k ≤ m ∧ acc.length ≤ 40 ∧ Aside (PB bx en T k wr) ∧ Aside (OutInv 3 1 RI w1.heap.size wr lv acc.length rows acc) ∧ Aside (Beside bx w wr) ∧ Aside (w1.heap.size ≤ wr.heap.size) ∧ Aside (pNums en (T.drop m1) [] = pNums en (T.drop k) acc))
    case atStart => exact ⟨m1, [], [], by omega, by simp, P1H.out, OutInv.nil _ _ _ _ _, B1.out, Nat.le_refl _, rfl⟩
    case round =>
      obtain ⟨k, acc, rows, hm, h40, PK, OI, BW, SW, HN⟩ := hrel
      obtain ⟨la, lc, rfl⟩ := OI.out.sliceV
      have hsw := SW.out
      have L := hid (look_is bx k en T wr PK.out)
      by_cases h2 : (lookT en T k).1 = 2
      · have hn : k < T.length := (drop_look (en := en) (T := T) (n := k) (by rw [h2]; decide)).1
        by_cases h4 : acc.length = 40
        · have h4i : ((acc.length : Int) == 40) = true := by rw [h4]; rfl
          have HE := hid (HN.out.trans (pNums_full h2 h4))
          have G := hid (fun w2 (b : Below wr.heap.size wr w2) => giveUp_is bx k en 4 T w2 (PK.out.keep (b.mono PK.out.lt)))
          generalize lookT en T k = t at L h2
          have tf := tokf0 t.1 t.2.1 t.2.2.1 t.2.2.2
          go_wp2_with fail
          go_at_call 36
          refine L.out.mono ?_
          rintro e w2 ⟨rfl, b2⟩
          have B2 := hid b2
          clear b2
          go_wp2_with fail
          go_at_call 37
          refine (G.out _ B2.out).mono ?_
          rintro e w3 ⟨rfl, b3⟩
          refine ⟨rfl, ?_⟩
          show ToldR bx en T w _ (pTail en (pNums en (T.drop m1) [])) _ _
          rw [HE.out]
          exact ⟨rfl, (BW.out.trans (Beside.of_below B2.out)).trans (Beside.of_below b3)⟩
        · have h4i : ((acc.length : Int) == 40) = false := by rw [beq_eq_false_iff_ne]; omega
          have HE := hid (HN.out.trans (pNums_more h2 h4))
          have N := hid (fun w2 (b : Below wr.heap.size wr w2) => number_is bx k en T w2 (PK.out.keep (b.mono PK.out.lt)))
          rw [pNum_ok h2] at N
          generalize lookT en T k = t at L h2 HE N
          have tf := tokf0 t.1 t.2.1 t.2.2.1 t.2.2.2
          go_wp2_with fail
          go_at_call 36
          refine L.out.mono ?_
          rintro e w2 ⟨rfl, b2⟩
          have B2 := hid b2
          clear b2
          go_wp2_with fail
          go_at_call 74
          refine (N.out _ B2.out).mono ?_
          rintro e w3 ⟨⟨m3, hm3, P3⟩, rfl, b3⟩
          have B3 : Hid (Beside bx wr w3) := (Beside.of_below B2.out).trans b3
          have P3H := hid P3
          have HM := hid hm3
          have hs3 := B3.out.size
          have hbx : bx < w1.heap.size := Nat.lt_of_lt_of_le hlt hs1
          clear P3 b3 hm3
          have O3 := hid (OI.out.beside ri_keep (B3.out.trans (Beside.of_below (below_box w3 (.cells #[.int .i64 t.2.2.2] 3)))) hbx)
          go_wp2_with (at_builtin; refine wpList_append_lies _ rfl _ _ 68 rfl w1.heap.size 3 i0 _ 1 8 Tryz.underlying68 HI.out HZ0.out HZ1.out HZ2.out rfl (by decide) (.slice la acc.length lc) acc.length rows.flatten rfl O3.out.own ⟨w3.heap.size, 0, none⟩ 1 1 [.int .i64 t.2.2.2] rfl rfl (World.news_of_block (cs := #[.int .i64 t.2.2.2]) (t := 3) (fr := (0, 0)) (heap_alloc_new w3 _)) (by simp [Value.oneCell']) (by decide) (by unfold maxLen; omega) (by omega) (by simp; omega) (w3.heap.size + 1) (by simp) ?_; intro g cap w4 hown hgrow hat hglt)
          have B3a : Beside bx wr (w3.alloc (.cells #[.int .i64 t.2.2.2] 3)) := B3.out.trans (Beside.of_below (below_box w3 _))
          have O4 := OI.out.grow ri_keep (row := [.int .i64 t.2.2.2]) (x := t.2.2.2) hsw hbx B3a rfl rfl hown hgrow (by simpa using hat)
          have hgs : w3.heap.size < w4.heap.size := by have := hgrow.size; simp at this; omega
          have B34 : Below w1.heap.size w3 w4 := ((Below.refl _ w3).alloc (by omega) _).grown hgrow (by simp; omega) (fun k hk => (OI.out.own.lt k hk).1)
          have hlen : T.length - (k + 1) = T.length - m3 := by have := congrArg List.length HM.out; simpa using this
          have O5 : OutInv 3 1 RI w1.heap.size w4 (.slice (some ⟨g, 0, none⟩) (acc.length + 1) cap) (acc ++ [t.2.2.2]).length (rows ++ [[.int .i64 t.2.2.2]]) (acc ++ [t.2.2.2]) := by simpa using O4
          go_roundg (T.length + 1 - m3)
          case measure => omega
          case rel => exact ⟨m3, acc ++ [t.2.2.2], rows ++ [[Value.int .i64 t.2.2.2]], by omega, by simp; omega, P3H.out.keep (B34.mono hbx), O5, (BW.out.trans B3.out).later (B34.mono hs1), (by show w1.heap.size ≤ w4.heap.size; omega), HE.out.trans (by rw [HM.out])⟩
      · have HE := hid (HN.out.trans (pNums_end h2))
        have M := hid (fun w2 (b : Below wr.heap.size wr w2) => mark_is bx k en ⟨#[41]⟩ T w2 (PK.out.keep (b.mono PK.out.lt)))
        have hbx : bx < w1.heap.size := Nat.lt_of_lt_of_le hlt hs1
        generalize lookT en T k = t at L h2
        have tf := tokf0 t.1 t.2.1 t.2.2.1 t.2.2.2
        cases hq : pMark en ⟨#[41]⟩ (T.drop k) with
        | error f =>
          rw [hq] at M
          go_wp2_with fail
          go_at_call 36
          refine L.out.mono ?_
          rintro e w2 ⟨rfl, b2⟩
          have B2 := hid b2
          clear b2
          go_wp2_with fail
          go_at_call 72
          refine (M.out _ B2.out).mono ?_
          rintro e w3 ⟨rfl, b3⟩
          refine ⟨rfl, ?_⟩
          show ToldR bx en T w _ (pTail en (pNums en (T.drop m1) [])) _ _
          have hpt : pTail en (pNums en (T.drop m1) []) = .error f := by rw [HE.out]; show andP (pMark en ⟨#[41]⟩ (T.drop k)) (fun _ l3 => .ok (acc, l3)) = _; rw [hq]; rfl
          rw [hpt]
          exact ⟨rfl, (BW.out.trans (Beside.of_below B2.out)).trans b3⟩
        | ok z =>
          obtain ⟨u2, l3⟩ := z
          rw [hq] at M
          have hpt : Hid (pTail en (pNums en (T.drop m1) []) = .ok (acc, l3)) := by show _ = _; rw [HE.out]; show andP (pMark en ⟨#[41]⟩ (T.drop k)) (fun _ l3 => .ok (acc, l3)) = _; rw [hq]; rfl
          clear hq
          go_wp2_with fail
          go_at_call 36
          refine L.out.mono ?_
          rintro e w2 ⟨rfl, b2⟩
          have B2 := hid b2
          clear b2
          go_wp2_with fail
          go_at_call 72
          refine (M.out _ B2.out).mono ?_
          rintro e w3 ⟨⟨m3, hm3, P3⟩, rfl, b3⟩
          have B3 : Hid (Beside bx wr w3) := (Beside.of_below B2.out).trans b3
          have P3H := hid P3
          have HM := hid hm3
          clear P3 b3 hm3
          go_wp2_with fail
          rw [hpt.out]
          go_ret
          refine ⟨⟨m3, HM.out, P3H.out⟩, ⟨_, rfl, ?_⟩, BW.out.trans B3.out⟩
          exact (ints_of_out (OI.out.beside ri_keep B3.out hbx) (by omega)).keep (fun _ _ _ => rfl) (fun b _ hb => Nat.le_trans hs1 hb)
end Go.Proofs.YtfgbjghfkdmcjaaGreatDoor
