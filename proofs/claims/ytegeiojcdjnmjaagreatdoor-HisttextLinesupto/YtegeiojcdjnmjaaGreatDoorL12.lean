/-
  What stays beside a box.
  The code's parser of a history's text: whether a token stands there; a mark; a number.
  The code's parser of a history's text: a number, a process, a key.
  The code's parser of a history's text: a process.
  The code's parser of a history's text: a key.
  The code's parser of a history's text: the place of the next word among some; the words.
  Walks of assayerplain's Events and of what it calls: a history in new memory.
-/
import Derived.Test.YtegeiojcdjnmjaaGreatDoorL11
import Derived.Test.YtegeiojcdjnmjaaGreatDoorL10
import Derived.Deep.AppendLies
import Derived.Lib.SliceRun
import Derived.Lib.Walk
import Derived.Deep.RegionHeld3
import Derived.Deep.DrawnRows
namespace Go.Proofs.YtegeiojcdjnmjaaGreatDoor
set_option linter.unusedVariables false
set_option linter.unusedSimpArgs false
open Go.RowKit


/-- w' is w but for the block bx and new ones. -/
structure Beside (bx : Nat) (w w' : World) : Prop where
  os : w'.os = w.os
  tape : w'.tape = w.tape
  output : w'.output = w.output
  size : w.heap.size ≤ w'.heap.size
  block : ∀ k, k < w.heap.size → k ≠ bx → w'.heap[k]? = w.heap[k]?

theorem Beside.refl (bx : Nat) (w : World) : Beside bx w w := ⟨rfl, rfl, rfl, Nat.le_refl _, fun _ _ _ => rfl⟩
theorem Beside.of_below {bx : Nat} {w w' : World} (h : Below w.heap.size w w') : Beside bx w w' := ⟨h.os, h.tape, h.output, h.size, fun k hk _ => h.block k hk⟩
theorem Beside.trans {bx : Nat} {w w1 w2 : World} (h1 : Beside bx w w1) (h2 : Beside bx w1 w2) : Beside bx w w2 :=
  ⟨h2.os.trans h1.os, h2.tape.trans h1.tape, h2.output.trans h1.output, Nat.le_trans h1.size h2.size, fun k hk hn => (h2.block k (Nat.lt_of_lt_of_le hk h1.size) hn).trans (h1.block k hk hn)⟩
theorem Beside.below {bx B : Nat} {w w' : World} (h : Beside bx w w') (hb : B ≤ bx) (hs : B ≤ w.heap.size) : Below B w w' := ⟨h.os, h.tape, h.output, h.size, fun k hk => h.block k (by omega) (by omega)⟩
theorem Beside.cell {bx : Nat} {w w' : World} (h : Beside bx w w') {p : Addr} (hp : p.block < w.heap.size) (hn : p.block ≠ bx) : w'.cell? p = w.cell? p := World.cell?_of_block (w := w) (h.block _ hp hn)
theorem Beside.setCell {bx : Nat} {w w' : World} (h : Beside bx w w') {p : Addr} (hp : p.block = bx) (v : Value) : Beside bx w (w'.setCell p v) := by
  have hb : Below bx w' (w'.setCell p v) := (Below.refl bx w').setCell (p := p) (by omega) v
  refine ⟨hb.os.trans h.os, hb.tape.trans h.tape, hb.output.trans h.output, Nat.le_trans h.size hb.size, fun k hk hn => ?_⟩
  refine Eq.trans ?_ (h.block k hk hn)
  simp only [World.setCell, Array.getElem?_modify]
  rw [if_neg (by omega)]

theorem Beside.setNew {bx : Nat} {w w' : World} (h : Beside bx w w') {p : Addr} (hp : w.heap.size ≤ p.block) (v : Value) : Beside bx w (w'.setCell p v) := by
  have hb : Below w.heap.size w' (w'.setCell p v) := (Below.refl _ w').setCell (p := p) hp v
  exact ⟨hb.os.trans h.os, hb.tape.trans h.tape, hb.output.trans h.output, Nat.le_trans h.size hb.size, fun k hk hn => (hb.block k hk).trans (h.block k hk hn)⟩
theorem Beside.frozen {bx : Nat} {w w' : World} (h : Beside bx w w') {p : Addr} (hp : p.block < w.heap.size) (hn : p.block ≠ bx) : w'.frozen? p = w.frozen? p := by
  unfold World.frozen?
  rw [h.block _ hp hn]

end Go.Proofs.YtegeiojcdjnmjaaGreatDoor
namespace Go.Proofs.YtegeiojcdjnmjaaGreatDoor
set_option linter.unusedVariables false
set_option linter.unusedSimpArgs false
open Go.RowKit

theorem sees_look {en : Int} {T : List MTok} {n : Nat} {k : Int} {x : ByteArray} (hk : k ≠ 0) : ((lookT en T n).1 == k && (lookT en T n).2.2.1.toList == x.toList) = seesP (T.drop n) k x := by
  unfold lookT seesP
  cases T.drop n with
  | nil =>
    have : ((0 : Int) == k) = false := by simpa using fun h => hk h.symm
    show ((0 : Int) == k && _) = false
    rw [this, Bool.false_and]
  | cons t r => rfl
set_option maxHeartbeats 2000000 in
set_option maxRecDepth 100000 in
theorem sees_is (bx n : Nat) (en k : Int) (x : ByteArray) (T : List MTok) (w : World) (hk : k ≠ 0) (h : PB bx en T n w) :
    Calls Tryz.prog 66 #[.pointer (some ⟨bx, 0, none⟩), .int .i64 k, .string x] w fun e w' => e = .returned (.bool (seesP (T.drop n) k x)) ∧ Below w.heap.size w w' := by
  have L := hid (look_is bx n en T w h)
  rw [← sees_look (en := en) hk]
  generalize lookT en T n = t at L ⊢
  clear h
  by_cases h1 : t.1 = k
  · have h2 : (t.1 == k) = true := by simpa using h1
    rw [h2, Bool.true_and]
    go_enter Tryz.func66, Tryz.ntmps66
    go_wp2_with (go_at_call 39; refine L.out.mono ?_; rintro e w2 ⟨rfl, b2⟩)
    go_ret
    refine ⟨?_, ?_⟩
    · simp_all
    · exact b2.alloc b2.size _
  · have h2 : (t.1 == k) = false := by simpa using h1
    rw [h2, Bool.false_and]
    go_enter Tryz.func66, Tryz.ntmps66
    go_wp2_with (go_at_call 39; refine L.out.mono ?_; rintro e w2 ⟨rfl, b2⟩)
    go_ret
    refine ⟨?_, ?_⟩
    · simp_all
    · exact b2.alloc b2.size _
/-- What a part of the parser leaves: what it is, with the parser behind it; or it gave up. -/
def Told {α : Type} (bx : Nat) (en : Int) (T : List MTok) (w : World) (val : α → Value) (p : Ps α) (e : Ending) (w' : World) : Prop := match p with
  | .ok z => (∃ m, z.2 = T.drop m ∧ PB bx en T m w') ∧ e = .returned (val z.1) ∧ Beside bx w w'
  | .error f => e = gaveUp f.1 f.2 ∧ Beside bx w w'
theorem sees_lt {T : List MTok} {n : Nat} {k : Int} {x : ByteArray} (h : seesP (T.drop n) k x = true) : n < T.length := by
  by_cases hn : n < T.length
  · exact hn
  · rw [List.drop_eq_nil_of_le (by omega)] at h
    cases h
theorem PB.took {bx n : Nat} {en : Int} {T : List MTok} {w : World} (h : PB bx en T n w) (hn : n < T.length) : PB bx en T (n + 1) (w.setCell ⟨bx, 1, none⟩ (.int .i64 (RowKit.wrap64 ((n : Int) + 1)))) := by
  have h2 := h.few
  have : RowKit.wrap64 ((n : Int) + 1) = (n : Int) + 1 := by unfold RowKit.wrap64; omega
  rw [this]
  exact h.take hn
set_option maxHeartbeats 2000000 in
set_option maxRecDepth 100000 in
theorem mark_is (bx n : Nat) (en : Int) (x : ByteArray) (T : List MTok) (w : World) (h : PB bx en T n w) :
    Calls Tryz.prog 84 #[.pointer (some ⟨bx, 0, none⟩), .string x] w fun e w' => Told bx en T w (fun _ => .tuple #[]) (pMark en x (T.drop n)) e w' := by
  have hlt := h.lt
  have S := hid (sees_is bx n en 3 x T w (by decide) h)
  have H := hid h
  unfold pMark
  cases hs : seesP (T.drop n) 3 x with
  | false =>
    rw [hs] at S
    show Calls _ _ _ _ fun e w' => e = gaveUp (nextAt en (T.drop n)) 20 ∧ Beside bx w w'
    have G := hid (fun w2 (b : Below w.heap.size w w2) => giveUp_is bx n en 20 T w2 (h.keep (b.mono hlt)))
    clear h
    go_enter Tryz.func84, Tryz.ntmps84
    go_wp2_with (first | (go_at_call 66; refine S.out.mono ?_; rintro e w2 ⟨rfl, b2⟩) | (go_at_call 40; refine (G.out _ b2).mono ?_; rintro e w3 ⟨rfl, b3⟩))
    exact ⟨rfl, rfl, (Beside.of_below b2).trans (Beside.of_below b3)⟩
  | true =>
    rw [hs] at S
    have hn := sees_lt hs
    show Calls _ _ _ _ fun e w' => (∃ m, (T.drop n).tail = T.drop m ∧ PB bx en T m w') ∧ e = .returned (.tuple #[]) ∧ Beside bx w w'
    have K := hid (fun w2 (b : Below w.heap.size w w2) => h.keep (b.mono hlt))
    have c1 := fun w2 (b : Below w.heap.size w w2) => (h.keep (b.mono hlt)).c1
    have z1 := fun w2 (b : Below w.heap.size w w2) => (h.keep (b.mono hlt)).z1
    clear h
    go_enter Tryz.func84, Tryz.ntmps84
    go_wp2_with (first | (go_at_call 66; refine S.out.mono ?_; rintro e w2 ⟨rfl, b2⟩; have k1 := c1 _ b2; have y1 := z1 _ b2))
    exact bodyPost_end (results_none rfl _ _ _) rfl ⟨⟨n + 1, by simp, (K.out _ b2).took hn⟩, rfl, (Beside.of_below b2).setCell (p := ⟨bx, 1, none⟩) rfl _⟩
end Go.Proofs.YtegeiojcdjnmjaaGreatDoor
namespace Go.Proofs.YtegeiojcdjnmjaaGreatDoor
set_option linter.unusedVariables false
set_option linter.unusedSimpArgs false
open Go.RowKit

theorem drop_look {en : Int} {T : List MTok} {n : Nat} (h : (lookT en T n).1 ≠ 0) : n < T.length ∧ T.drop n = lookT en T n :: T.drop (n + 1) := by
  by_cases hn : n < T.length
  · refine ⟨hn, ?_⟩
    rw [look_in hn, List.drop_eq_getElem_cons hn]
    simp [List.getD, hn]
  · rw [look_out hn] at h
    exact absurd rfl h
set_option maxHeartbeats 2000000 in
set_option maxRecDepth 100000 in
theorem number_is (bx n : Nat) (en : Int) (T : List MTok) (w : World) (h : PB bx en T n w) :
    Calls Tryz.prog 86 #[.pointer (some ⟨bx, 0, none⟩)] w fun e w' => Told bx en T w (fun x => .int .i64 x) (pNum en (T.drop n)) e w' := by
  have hlt := h.lt
  have L := hid (look_is bx n en T w h)
  by_cases h2 : (lookT en T n).1 = 2
  · obtain ⟨hn, hd⟩ := drop_look (en := en) (T := T) (n := n) (by rw [h2]; decide)
    have hp : pNum en (T.drop n) = .ok ((lookT en T n).2.2.2, T.drop (n + 1)) := by rw [hd]; exact if_pos h2
    rw [hp]
    generalize lookT en T n = t at L h2 ⊢
    clear hp hd
    show Calls _ _ _ _ fun e w' => (∃ m, T.drop (n + 1) = T.drop m ∧ PB bx en T m w') ∧ e = .returned (.int .i64 t.2.2.2) ∧ Beside bx w w'
    have K := hid (fun w2 (b : Below w.heap.size w w2) => h.keep (b.mono hlt))
    have c1 := fun w2 (b : Below w.heap.size w w2) => (h.keep (b.mono hlt)).c1
    have z1 := fun w2 (b : Below w.heap.size w w2) => (h.keep (b.mono hlt)).z1
    clear h
    go_enter Tryz.func86, Tryz.ntmps86
    go_wp2_with fail
    go_at_call 39
    refine L.out.mono ?_
    rintro e w2 ⟨rfl, b2⟩
    have hs0 := b2.size
    have k1 : ∀ o, (w2.alloc o).cell? ⟨bx, 1, none⟩ = some (.int .i64 n) := fun o => c1 _ (b2.alloc hs0 o)
    have y1 : ∀ o, (w2.alloc o).frozen? ⟨bx, 1, none⟩ = false := fun o => z1 _ (b2.alloc hs0 o)
    have hs2 : bx < w2.heap.size := Nat.lt_of_lt_of_le hlt hs0
    have ne1 : ¬ bx = w2.heap.size := by omega
    have ne2 : ¬ w2.heap.size = bx := by omega
    go_wp2_with fail
    go_ret
    have q := (K.out _ b2).took hn
    exact ⟨⟨n + 1, rfl, q.keep ((below_box _ _).mono q.lt)⟩, rfl, ((Beside.of_below b2).setCell (p := ⟨bx, 1, none⟩) rfl _).trans (Beside.of_below (below_box _ _))⟩
  · have hp : pNum en (T.drop n) = .error (nextAt en (T.drop n), 20) := by
      by_cases hn : n < T.length
      · have hd : T.drop n = lookT en T n :: T.drop (n + 1) := by
          rw [look_in hn, List.drop_eq_getElem_cons hn]; simp [List.getD, hn]
        rw [hd]; exact if_neg h2
      · rw [List.drop_eq_nil_of_le (by omega)]; rfl
    rw [hp]
    generalize lookT en T n = t at L h2 ⊢
    clear hp
    show Calls _ _ _ _ fun e w' => e = gaveUp (nextAt en (T.drop n)) 20 ∧ Beside bx w w'
    have G := hid (fun w2 (b : Below w.heap.size w w2) => giveUp_is bx n en 20 T w2 (h.keep (b.mono hlt)))
    clear h
    go_enter Tryz.func86, Tryz.ntmps86
    go_wp2_with (first | (go_at_call 39; refine L.out.mono ?_; rintro e w2 ⟨rfl, b2⟩) | (go_at_call 40; refine (G.out _ (b2.alloc b2.size _)).mono ?_; rintro e w3 ⟨rfl, b3⟩))
    exact ⟨rfl, rfl, (Beside.of_below (b2.alloc b2.size _)).trans (Beside.of_below b3)⟩
end Go.Proofs.YtegeiojcdjnmjaaGreatDoor
namespace Go.Proofs.YtegeiojcdjnmjaaGreatDoor
set_option linter.unusedVariables false
set_option linter.unusedSimpArgs false
open Go.RowKit

theorem proc_not {en : Int} {T : List MTok} {n : Nat} (h : ¬ ((lookT en T n).1 = 2 ∧ 0 ≤ (lookT en T n).2.2.2 ∧ (lookT en T n).2.2.2 ≤ 99)) : pProc en (T.drop n) = .error (nextAt en (T.drop n), 20) := by
  by_cases hn : n < T.length
  · have hd : T.drop n = lookT en T n :: T.drop (n + 1) := by
      rw [look_in hn, List.drop_eq_getElem_cons hn]; simp [List.getD, hn]
    rw [hd]; exact if_neg h
  · rw [List.drop_eq_nil_of_le (by omega)]; rfl
set_option maxHeartbeats 2000000 in
set_option maxRecDepth 100000 in
theorem process_is (bx n : Nat) (en : Int) (T : List MTok) (w : World) (h : PB bx en T n w) :
    Calls Tryz.prog 64 #[.pointer (some ⟨bx, 0, none⟩)] w fun e w' => Told bx en T w (fun x => .int .i64 x) (pProc en (T.drop n)) e w' := by
  have hlt := h.lt
  have L := hid (look_is bx n en T w h)
  by_cases hok : (lookT en T n).1 = 2 ∧ 0 ≤ (lookT en T n).2.2.2 ∧ (lookT en T n).2.2.2 ≤ 99
  · obtain ⟨hn, hd⟩ := drop_look (en := en) (T := T) (n := n) (by rw [hok.1]; decide)
    have hp : pProc en (T.drop n) = .ok ((lookT en T n).2.2.2, T.drop (n + 1)) := by rw [hd]; exact if_pos hok
    rw [hp]
    generalize lookT en T n = t at L hok ⊢
    clear hp hd
    obtain ⟨h2, h3, h4⟩ := hok
    have P := hid (isProcess_any t.2.2.2)
    have hb : (decide (0 ≤ t.2.2.2) && decide (t.2.2.2 ≤ 99)) = true := by simp [h3, h4]
    rw [hb] at P
    show Calls _ _ _ _ fun e w' => (∃ m, T.drop (n + 1) = T.drop m ∧ PB bx en T m w') ∧ e = .returned (.int .i64 t.2.2.2) ∧ Beside bx w w'
    have K := hid (fun w2 (b : Below w.heap.size w w2) => h.keep (b.mono hlt))
    have c1 := fun w2 (b : Below w.heap.size w w2) => (h.keep (b.mono hlt)).c1
    have z1 := fun w2 (b : Below w.heap.size w w2) => (h.keep (b.mono hlt)).z1
    clear h
    go_enter Tryz.func64, Tryz.ntmps64
    go_wp2_with fail
    go_at_call 39
    refine L.out.mono ?_
    rintro e w2 ⟨rfl, b2⟩
    have hs0 := b2.size
    have k1 : ∀ o, (w2.alloc o).cell? ⟨bx, 1, none⟩ = some (.int .i64 n) := fun o => c1 _ (b2.alloc hs0 o)
    have y1 : ∀ o, (w2.alloc o).frozen? ⟨bx, 1, none⟩ = false := fun o => z1 _ (b2.alloc hs0 o)
    have hs2 : bx < w2.heap.size := Nat.lt_of_lt_of_le hlt hs0
    have ne1 : ¬ bx = w2.heap.size := by omega
    have ne2 : ¬ w2.heap.size = bx := by omega
    go_wp2_with (go_at_call 72; refine (P.out _).mono ?_; rintro e w3 ⟨rfl, rfl⟩)
    go_ret
    have q := (K.out _ b2).took hn
    exact ⟨⟨n + 1, rfl, q.keep ((below_box _ _).mono q.lt)⟩, rfl, ((Beside.of_below b2).setCell (p := ⟨bx, 1, none⟩) rfl _).trans (Beside.of_below (below_box _ _))⟩
  · rw [proc_not hok]
    generalize lookT en T n = t at L hok ⊢
    show Calls _ _ _ _ fun e w' => e = gaveUp (nextAt en (T.drop n)) 20 ∧ Beside bx w w'
    have G := hid (fun w2 (b : Below w.heap.size w w2) => giveUp_is bx n en 20 T w2 (h.keep (b.mono hlt)))
    clear h
    by_cases h2 : t.1 = 2
    · have P := hid (isProcess_any t.2.2.2)
      have hb : (decide (0 ≤ t.2.2.2) && decide (t.2.2.2 ≤ 99)) = false := by
        rw [Bool.and_eq_false_iff, decide_eq_false_iff_not, decide_eq_false_iff_not]
        omega
      rw [hb] at P
      clear hok hb
      go_enter Tryz.func64, Tryz.ntmps64
      go_wp2_with (first | (go_at_call 39; refine L.out.mono ?_; rintro e w2 ⟨rfl, b2⟩) | (go_at_call 72; refine (P.out _).mono ?_; rintro e w3 ⟨rfl, rfl⟩) | (go_at_call 40; refine (G.out _ (b2.alloc b2.size _)).mono ?_; rintro e w3 ⟨rfl, b3⟩))
      exact ⟨rfl, rfl, (Beside.of_below (b2.alloc b2.size _)).trans (Beside.of_below b3)⟩
    · clear hok
      go_enter Tryz.func64, Tryz.ntmps64
      go_wp2_with (first | (go_at_call 39; refine L.out.mono ?_; rintro e w2 ⟨rfl, b2⟩) | (go_at_call 40; refine (G.out _ (b2.alloc b2.size _)).mono ?_; rintro e w3 ⟨rfl, b3⟩))
      exact ⟨rfl, rfl, (Beside.of_below (b2.alloc b2.size _)).trans (Beside.of_below b3)⟩
end Go.Proofs.YtegeiojcdjnmjaaGreatDoor
namespace Go.Proofs.YtegeiojcdjnmjaaGreatDoor
set_option linter.unusedVariables false
set_option linter.unusedSimpArgs false
open Go.RowKit

theorem key_not {en : Int} {T : List MTok} {n : Nat} (h : ¬ ((lookT en T n).1 = 1 ∧ keyOk (lookT en T n).2.2.1 = true)) : pKey en (T.drop n) = .error (nextAt en (T.drop n), 20) := by
  by_cases hn : n < T.length
  · have hd : T.drop n = lookT en T n :: T.drop (n + 1) := by
      rw [look_in hn, List.drop_eq_getElem_cons hn]; simp [List.getD, hn]
    rw [hd]; exact if_neg h
  · rw [List.drop_eq_nil_of_le (by omega)]; rfl
set_option maxHeartbeats 2000000 in
set_option maxRecDepth 100000 in
theorem key_is (bx n : Nat) (en : Int) (T : List MTok) (w : World) (h : PB bx en T n w) :
    Calls Tryz.prog 85 #[.pointer (some ⟨bx, 0, none⟩)] w fun e w' => Told bx en T w (fun x => .string x) (pKey en (T.drop n)) e w' := by
  have hlt := h.lt
  have L := hid (look_is bx n en T w h)
  by_cases hok : (lookT en T n).1 = 1 ∧ keyOk (lookT en T n).2.2.1 = true
  · obtain ⟨hn, hd⟩ := drop_look (en := en) (T := T) (n := n) (by rw [hok.1]; decide)
    have hp : pKey en (T.drop n) = .ok ((lookT en T n).2.2.1, T.drop (n + 1)) := by rw [hd]; exact if_pos hok
    rw [hp]
    generalize lookT en T n = t at L hok ⊢
    clear hp hd
    obtain ⟨h2, h3⟩ := hok
    have P := hid (isKey_all t.2.2.1)
    rw [h3] at P
    show Calls _ _ _ _ fun e w' => (∃ m, T.drop (n + 1) = T.drop m ∧ PB bx en T m w') ∧ e = .returned (.string t.2.2.1) ∧ Beside bx w w'
    have K := hid (fun w2 (b : Below w.heap.size w w2) => h.keep (b.mono hlt))
    have c1 := fun w2 (b : Below w.heap.size w w2) => (h.keep (b.mono hlt)).c1
    have z1 := fun w2 (b : Below w.heap.size w w2) => (h.keep (b.mono hlt)).z1
    clear h
    go_enter Tryz.func85, Tryz.ntmps85
    go_wp2_with fail
    go_at_call 39
    refine L.out.mono ?_
    rintro e w2 ⟨rfl, b2⟩
    have hs0 := b2.size
    have B2 := hid b2
    clear b2
    have hs2 : bx < w2.heap.size := Nat.lt_of_lt_of_le hlt hs0
    have ne1 : ¬ bx = w2.heap.size := by omega
    have ne2 : ¬ w2.heap.size = bx := by omega
    go_wp2_with fail
    go_at_call 88
    refine (P.out _).mono ?_
    rintro e w3 ⟨rfl, b3⟩
    have d2 : w3.cell? ⟨w2.heap.size, 2, none⟩ = some (.string t.2.2.1) := (b3.cell (p := ⟨w2.heap.size, 2, none⟩) (by simp)).trans (new_cells w2 _ 57 2)
    have B3 : Hid (Below w.heap.size w w3) := (B2.out.alloc hs0 _).trans (b3.mono (by simp; omega))
    clear b3
    have k1 := c1 _ B3.out
    have y1 := z1 _ B3.out
    go_wp2_with fail
    go_ret
    exact ⟨⟨n + 1, rfl, (K.out _ B3.out).took hn⟩, rfl, (Beside.of_below B3.out).setCell (p := ⟨bx, 1, none⟩) rfl _⟩
  · rw [key_not hok]
    generalize lookT en T n = t at L hok ⊢
    show Calls _ _ _ _ fun e w' => e = gaveUp (nextAt en (T.drop n)) 20 ∧ Beside bx w w'
    have G := hid (fun w2 (b : Below w.heap.size w w2) => giveUp_is bx n en 20 T w2 (h.keep (b.mono hlt)))
    clear h
    by_cases h2 : t.1 = 1
    · have P := hid (isKey_all t.2.2.1)
      have hb : keyOk t.2.2.1 = false := by
        cases hk : keyOk t.2.2.1 with
        | false => rfl
        | true => exact absurd ⟨h2, hk⟩ hok
      rw [hb] at P
      clear hok hb
      go_enter Tryz.func85, Tryz.ntmps85
      go_wp2_with (first | (go_at_call 39; refine L.out.mono ?_; rintro e w2 ⟨rfl, b2⟩; have hs0 := b2.size; have B2 := hid b2; clear b2) | (go_at_call 88; refine (P.out _).mono ?_; rintro e w3 ⟨rfl, b3⟩; have B3 : Hid (Below w.heap.size w w3) := (B2.out.alloc hs0 _).trans (b3.mono (by simp; omega)); clear b3) | (go_at_call 40; refine (G.out _ B3.out).mono ?_; rintro e w4 ⟨rfl, b4⟩))
      exact ⟨rfl, rfl, (Beside.of_below B3.out).trans (Beside.of_below b4)⟩
    · clear hok
      go_enter Tryz.func85, Tryz.ntmps85
      go_wp2_with (first | (go_at_call 39; refine L.out.mono ?_; rintro e w2 ⟨rfl, b2⟩) | (go_at_call 40; refine (G.out _ (b2.alloc b2.size _)).mono ?_; rintro e w3 ⟨rfl, b3⟩))
      exact ⟨rfl, rfl, (Beside.of_below (b2.alloc b2.size _)).trans (Beside.of_below b3)⟩
end Go.Proofs.YtegeiojcdjnmjaaGreatDoor
namespace Go.Proofs.YtegeiojcdjnmjaaGreatDoor
set_option linter.unusedVariables false
set_option linter.unusedSimpArgs false
open Go.RowKit

abbrev wdV (x0 x1 x2 x3 x4 : ByteArray) : Value := .agg #[.string x0, .string x1, .string x2, .string x3, .string x4]
theorem wd_at (x0 x1 x2 x3 x4 : ByteArray) (k : Nat) (h : k < 5) (W : World) : Sem.run Tryz.prog (Instr.index 69 (.agg #[.string x0, .string x1, .string x2, .string x3, .string x4]) (.int .i64 k)) W = .ok (.string ([x0, x1, x2, x3, x4].getD k ByteArray.empty)) W := by
  match k, h with
  | 0, _ => simp [Instr.index, run_underlying Tryz.underlying69, go_sem]
  | 1, _ => simp [Instr.index, run_underlying Tryz.underlying69, go_sem]
  | 2, _ => simp [Instr.index, run_underlying Tryz.underlying69, go_sem]
  | 3, _ => simp [Instr.index, run_underlying Tryz.underlying69, go_sem]
  | 4, _ => simp [Instr.index, run_underlying Tryz.underlying69, go_sem]
theorem kind_step {en : Int} {l : List MTok} {k : Nat} {ws : List ByteArray} (h : k < ws.length) : pKind en l k (ws.drop k) = if seesP l 1 (ws.getD k ByteArray.empty) then .ok ((k : Int), l.tail) else pKind en l (k + 1) (ws.drop (k + 1)) := by
  rw [List.drop_eq_getElem_cons h]
  have : ws.getD k ByteArray.empty = ws[k] := by simp [List.getD, h]
  rw [this]
  rfl
set_option maxHeartbeats 2000000 in
set_option maxRecDepth 100000 in
theorem kind_is (bx n : Nat) (en : Int) (T : List MTok) (w : World) (x0 x1 x2 x3 x4 : ByteArray) (h : PB bx en T n w) :
    Calls Tryz.prog 63 #[.pointer (some ⟨bx, 0, none⟩), .agg #[.string x0, .string x1, .string x2, .string x3, .string x4]] w fun e w' => Told bx en T w (fun x => .int .i64 x) (pKind en (T.drop n) 0 [x0, x1, x2, x3, x4]) e w' := by
  have hlt := h.lt
  have S := hid (fun w2 x (b : Below w.heap.size w w2) => sees_is bx n en 1 x T w2 (by decide) (h.keep (b.mono hlt)))
  have G := hid (fun w2 (b : Below w.heap.size w w2) => giveUp_is bx n en 20 T w2 (h.keep (b.mono hlt)))
  have K := hid (fun w2 (b : Below w.heap.size w w2) => h.keep (b.mono hlt))
  have c1 := fun w2 (b : Below w.heap.size w w2) => (h.keep (b.mono hlt)).c1
  have z1 := fun w2 (b : Below w.heap.size w w2) => (h.keep (b.mono hlt)).z1
  have B0 := hid (fun o => below_box w o)
  clear h
  go_enter Tryz.func63, Tryz.ntmps63
  go_wp2_with fail
  go_loopg [5, 6, 8] 5 (fun m _ _ i wr => ∃ k : Nat, k ≤ 5 ∧ 5 - k ≤ m ∧ i = .int .i64 k ∧ Aside (Below w.heap.size w wr) ∧ Aside (pKind en (T.drop n) 0 [x0, x1, x2, x3, x4] = pKind en (T.drop n) k ([x0, x1, x2, x3, x4].drop k)))
  case atStart => exact ⟨0, Nat.zero_le _, by omega, rfl, B0.out _, rfl⟩
  case round =>
    obtain ⟨k, hk, hg, rfl, BW, HW⟩ := hrel
    by_cases hlt5 : k < 5
    · have hlti : (k : Int) < 5 := by omega
      have ix := wd_at x0 x1 x2 x3 x4 k hlt5
      have hst := kind_step (en := en) (l := T.drop n) (k := k) (ws := [x0, x1, x2, x3, x4]) hlt5
      have HST := hid hst
      clear hst
      generalize [x0, x1, x2, x3, x4].getD k ByteArray.empty = x at ix HST
      have S2 := hid (S.out wr x BW.out)
      cases hs : seesP (T.drop n) 1 x with
      | true =>
        have hn := sees_lt hs
        rw [hs] at S2 HST
        have HE : Hid (pKind en (T.drop n) 0 [x0, x1, x2, x3, x4] = .ok ((k : Int), (T.drop n).tail)) := HW.out.trans (HST.out.trans (if_pos rfl))
        clear HST
        go_wp2_with fail
        go_at_call 66
        refine S2.out.mono ?_
        rintro e w2 ⟨rfl, b2⟩
        have B2 : Hid (Below w.heap.size w w2) := BW.out.trans (b2.mono BW.out.size)
        clear b2
        have k1 := c1 _ B2.out
        have y1 := z1 _ B2.out
        go_wp2_with fail
        rw [HE.out]
        go_ret
        exact ⟨⟨n + 1, by simp, (K.out _ B2.out).took hn⟩, rfl, (Beside.of_below B2.out).setCell (p := ⟨bx, 1, none⟩) rfl _⟩
      | false =>
        rw [hs] at S2 HST
        have HE : Hid (pKind en (T.drop n) 0 [x0, x1, x2, x3, x4] = pKind en (T.drop n) (k + 1) ([x0, x1, x2, x3, x4].drop (k + 1))) := HW.out.trans (HST.out.trans (if_neg (by decide)))
        clear HST
        go_wp2_with fail
        go_at_call 66
        refine S2.out.mono ?_
        rintro e w2 ⟨rfl, b2⟩
        have B2 : Hid (Below w.heap.size w w2) := BW.out.trans (b2.mono BW.out.size)
        clear b2
        go_wp2_with fail
        go_roundg (5 - (k + 1))
        case measure => omega
        case rel => exact ⟨k + 1, by omega, by omega, by go_num, B2.out, HE.out⟩
    · have hlti : ¬ (k : Int) < 5 := by omega
      have HE : Hid (pKind en (T.drop n) 0 [x0, x1, x2, x3, x4] = .error (nextAt en (T.drop n), 20)) := by
        show _ = _
        have hd : [x0, x1, x2, x3, x4].drop k = [] := List.drop_eq_nil_of_le (by show 5 ≤ k; omega)
        rw [HW.out, hd]
        rfl
      go_wp2_with fail
      go_at_call 40
      refine (G.out _ BW.out).mono ?_
      rintro e w2 ⟨rfl, b2⟩
      refine ⟨rfl, ?_⟩
      show Told bx en T w _ (pKind en (T.drop n) 0 [x0, x1, x2, x3, x4]) _ _
      rw [HE.out]
      exact ⟨rfl, (Beside.of_below BW.out).trans (Beside.of_below b2)⟩
theorem evWords_is (w : World) : Calls Tryz.prog 26 #[] w fun e w' => e = .returned (wdV ⟨#[]⟩ ⟨#[105, 110, 118, 111, 107, 101]⟩ ⟨#[111, 107]⟩ ⟨#[102, 97, 105, 108]⟩ ⟨#[105, 110, 102, 111]⟩) ∧ Below w.heap.size w w' := by
  go_enter Tryz.func26, Tryz.ntmps26
  go_wp2_with fail
  refine bodyPost_ret (v := wdV ⟨#[]⟩ ⟨#[105, 110, 118, 111, 107, 101]⟩ ⟨#[111, 107]⟩ ⟨#[102, 97, 105, 108]⟩ ⟨#[105, 110, 102, 111]⟩) (by simp [results, Tryz.results26, go_sem]) rfl ⟨rfl, ?_⟩
  repeat' (first | exact below_box _ _ | refine Below.setCell ?_ (Nat.le_refl _) _)
theorem opWords_is (w : World) : Calls Tryz.prog 50 #[] w fun e w' => e = .returned (wdV ⟨#[]⟩ ⟨#[97, 112, 112, 101, 110, 100]⟩ ⟨#[114, 101, 97, 100]⟩ ⟨#[119, 114, 105, 116, 101]⟩ ⟨#[103, 101, 116]⟩) ∧ Below w.heap.size w w' := by
  go_enter Tryz.func50, Tryz.ntmps50
  go_wp2_with fail
  refine bodyPost_ret (v := wdV ⟨#[]⟩ ⟨#[97, 112, 112, 101, 110, 100]⟩ ⟨#[114, 101, 97, 100]⟩ ⟨#[119, 114, 105, 116, 101]⟩ ⟨#[103, 101, 116]⟩) (by simp [results, Tryz.results50, go_sem]) rfl ⟨rfl, ?_⟩
  repeat' (first | exact below_box _ _ | refine Below.setCell ?_ (Nat.le_refl _) _)
end Go.Proofs.YtegeiojcdjnmjaaGreatDoor
namespace Go.Proofs.YtegeiojcdjnmjaaGreatDoor
set_option linter.unusedVariables false
set_option linter.unusedSimpArgs false
open Go.RowKit Go.Lib

theorem Tryz.infoInt : (Tryz.prog.info? 3).map (fun i => (i.zero, i.size, i.bytes)) = some (some (.int .i64 0), 1, 8) := by kernel_rfl

theorem Tryz.infoOp : (Tryz.prog.info? 74).map (fun i => (i.zero, i.size, i.bytes)) = some (some (.agg #[.int .i64 0, .string ByteArray.empty, .int .i64 0, .slice none 0 0, .bool false, .bool false]), 6, 64) := by kernel_rfl

theorem opRow_keep (S T : Nat → Prop) (w w' : World) (cs : List Value) (x : MOp) (h : OpRow S w cs x) (hk : KeepsIn S w w') (hT : ∀ b, b < w.heap.size → S b → T b) : OpRow T w' cs x := h.keep hk hT

theorem Tryz.infoEv : (Tryz.prog.info? 62).map (fun i => (i.zero, i.size, i.bytes)) = some (some (.agg #[.int .i64 0, .int .i64 0, .slice none 0 0]), 3, 40) := by kernel_rfl

theorem evRow_keep (S T : Nat → Prop) (w w' : World) (cs : List Value) (x : MEv) (h : EvRow S w cs x) (hk : KeepsIn S w w') (hT : ∀ b, b < w.heap.size → S b → T b) : EvRow T w' cs x := h.keep hk hT
end Go.Proofs.YtegeiojcdjnmjaaGreatDoor
