/-
  A state in memory; isMade, New, strings.Clone.
-/
import Derived.Test.YtjeheknhpfkaiaaDoorMp
import Derived.Test.YtjeheknhpfkaiaaDoorMc
import Derived.Deep.AppendLies
import Derived.Lib.SliceRun
import Derived.Lib.Walk
import Derived.Deep.RegionHeld3
import Derived.Deep.RegionWith
import Derived.Deep.CutRange
import Derived.Deep.DrawnRows
import Derived.Deep.QuietTactic
import Derived.BigQuiet
import Derived.Outline
import Derived.Lib.Builder
import Derived.Lib.SmallJoins
import Derived.WalkSpells
namespace Go.Proofs.YtjeheknhpfkaiaaDoor
set_option linter.unusedVariables false
set_option linter.unusedSimpArgs false
open Go.RowKit Go.Lib Go.Maps

theorem below_box (w : World) (o : Obj) : Below w.heap.size w (w.alloc o) := (Below.refl _ _).alloc (Nat.le_refl _) _
theorem blt {w : World} {b : Nat} {o : Obj} (h : w.heap[b]? = some o) : b < w.heap.size := (Array.getElem?_eq_some_iff.1 h).1
/-- Blocks outside P stay. -/
structure Gro (P : Nat → Prop) (w w' : World) : Prop where
  os : w'.os = w.os
  tape : w'.tape = w.tape
  output : w'.output = w.output
  size : w.heap.size ≤ w'.heap.size
  block : ∀ b, b < w.heap.size → ¬ P b → w'.heap[b]? = w.heap[b]?
theorem Gro.refl (P : Nat → Prop) (w : World) : Gro P w w := ⟨rfl, rfl, rfl, Nat.le_refl _, fun _ _ _ => rfl⟩
/-- P, and all blocks that were laid since. -/
def wide (P : Nat → Prop) (w w' : World) (b : Nat) : Prop := P b ∨ (w.heap.size ≤ b ∧ b < w'.heap.size)
theorem Gro.trans {P : Nat → Prop} {a b c : World} (h : Gro P a b) (k : Gro (wide P a b) b c) : Gro P a c :=
  ⟨k.os.trans h.os, k.tape.trans h.tape, k.output.trans h.output, Nat.le_trans h.size k.size, fun i hi hn => (k.block i (Nat.lt_of_lt_of_le hi h.size) (fun c => by
    rcases c with c | c
    · exact hn c
    · omega)).trans (h.block i hi hn)⟩
theorem Gro.of_below {P : Nat → Prop} {a b : World} (h : Below a.heap.size a b) : Gro P a b := ⟨h.os, h.tape, h.output, h.size, fun i hi _ => h.block i hi⟩
theorem Gro.of_grown {P : Nat → Prop} {a b : World} {r : Nat} (h : a.grownBy b (some r)) (hr : P r) : Gro P a b := ⟨h.os, h.tape, h.output, h.size, fun i hi hn => h.block i hi (fun e => by
  injection e with e
  exact hn (e ▸ hr))⟩
theorem Gro.mono {P P' : Nat → Prop} {a b : World} (h : Gro P a b) (hp : ∀ i, i < a.heap.size → P i → P' i) : Gro P' a b := ⟨h.os, h.tape, h.output, h.size, fun i hi hn => h.block i hi (fun c => hn (hp i hi c))⟩
theorem Gro.below {P : Nat → Prop} {a b : World} {B : Nat} (h : Gro P a b) (hB : B ≤ a.heap.size) (hp : ∀ i, i < B → ¬ P i) : Below B a b := ⟨h.os, h.tape, h.output, h.size, fun i hi => h.block i (by omega) (hp i hi)⟩

theorem own_same {B : Nat} {w w' : World} {e : TypeId} {z n : Nat} {v : Value} {xs : List Value} (h : w.ownsRow B e z v n xs) (hs : ∀ g, v.ownBlock = some g → w'.heap[g]? = w.heap[g]?) : w'.ownsRow B e z v n xs := by
  refine ⟨h.1, ?_⟩
  rcases h.2 with h1 | ⟨g, cap, cur, hv, hg, hh, hr⟩
  · exact .inl h1
  · exact .inr ⟨g, cap, cur, hv, hg, (hs g (by rw [hv]; rfl)).trans hh, hr⟩
theorem own_slice {B : Nat} {w : World} {e : TypeId} {z n : Nat} {v : Value} {xs : List Value} (h : w.ownsRow B e z v n xs) : ∃ a c, v = .slice a n c := by
  rcases h.2 with ⟨hv, hn⟩ | ⟨g, cap, cur, hv, _⟩
  · exact ⟨none, 0, by rw [hv, hn]⟩
  · exact ⟨_, cap, hv⟩
theorem own_block {B : Nat} {w : World} {e : TypeId} {z n g : Nat} {v : Value} {xs : List Value} (h : w.ownsRow B e z v n xs) (hg : v.ownBlock = some g) : B ≤ g ∧ g < w.heap.size ∧ ∃ cs, w.heap[g]? = some (.cells cs e) := by
  rcases h.2 with ⟨hv, hn⟩ | ⟨g', cap, cur, hv, hB, hh, hr⟩
  · rw [hv] at hg
    cases hg
  · rw [hv] at hg
    have : g' = g := by simpa [Value.ownBlock] using hg
    subst this
    exact ⟨hB, blt hh, _, hh⟩
theorem alloc_at (w : World) (o : Obj) (b : Nat) : (w.alloc o).heap[b]? = if b = w.heap.size then some o else w.heap[b]? := by
  show (w.heap.push o)[b]? = _
  rw [Array.getElem?_push]
theorem alloc_size (w : World) (o : Obj) : (w.alloc o).heap.size = w.heap.size + 1 := by
  show (w.heap.push o).size = _
  rw [Array.size_push]
theorem set_ne {w : World} {p : Addr} {v : Value} {g : Nat} (h : g ≠ p.block) : (w.setCell p v).heap[g]? = w.heap[g]? := by
  unfold World.setCell
  simp [Array.getElem?_modify]
  intro c
  exact absurd c.symm h

theorem Tryd.laidOut : laidOutB Tryd.prog = true := by kernel_rfl
theorem keys9 : Keyed Tryd.prog 9 := string_keyed Tryd.underlying9
theorem key9 (s : ByteArray) (hs : s.size ≤ maxLen) : keyOf Tryd.prog 9 (.string s) = some (.string s.data.toList) := Go.WideMaps.keyOf_string_mk Tryd.underlying9 hs
theorem zeroL (w : World) : (zeroValue 47).run Tryd.prog w = .ok (.slice none 0 0) w := by kernel_rfl
theorem zeroR (w : World) : (zeroValue 54).run Tryd.prog w = .ok (.agg #[.int .i64 0, .bool false]) w := by kernel_rfl

/-- A register's two cells. -/
def rgVal (r : Option Int) : Value := .agg #[.int .i64 (rgV r), .bool r.isSome]
/-- The lists of a state: block lb is a map of them, each in a block of its own. -/
structure Ls (B : Nat) (w : World) (lb : Nat) (F : Nat → Prop) (n : Nat) (L : ByteArray → List Int) (S : ByteArray → Value) : Prop where
  map : ∃ f, MapV w Tryd.prog 9 lb n f ∧ ∀ s, f (.string s) = if L s = [] then none else some (S s)
  nil : ∀ s, L s = [] → S s = .slice none 0 0
  own : ∀ s, w.ownsRow B 3 1 (S s) (L s).length ((L s).map (Value.int .i64))
  foot : ∀ s g, (S s).ownBlock = some g → F g
  apart : ∀ s s' g, (S s).ownBlock = some g → (S s').ownBlock = some g → s = s'
/-- The registers of a state. -/
def Rs (w : World) (rb n : Nat) (R : ByteArray → Option Int) : Prop := ∃ f, MapV w Tryd.prog 9 rb n f ∧ ∀ s, f (.string s) = (R s).map (fun v => .agg #[.int .i64 v, .bool true])
/-- A state in memory: its two maps; all its blocks are of F. -/
structure St (B : Nat) (w : World) (sb lb rb : Nat) (F : Nat → Prop) (n : Nat) (L : List MOp) : Prop where
  ob : w.heap[sb]? = some (.cells #[.map (some lb), .map (some rb)] 50 (0, 0))
  ne : lb ≠ rb
  fs : F sb
  fl : F lb
  fr : F rb
  flt : ∀ b, F b → B ≤ b ∧ b < w.heap.size
  ls : ∃ S, Ls B w lb F n (lstM L) S
  rs : Rs w rb n (regM L)
theorem St.c0 {B : Nat} {w : World} {sb lb rb : Nat} {F : Nat → Prop} {n : Nat} {L : List MOp} (h : St B w sb lb rb F n L) : w.cell? ⟨sb, 0, none⟩ = some (.map (some lb)) := Lib.cell_of_heap h.ob 0
theorem St.c1 {B : Nat} {w : World} {sb lb rb : Nat} {F : Nat → Prop} {n : Nat} {L : List MOp} (h : St B w sb lb rb F n L) : w.cell? ⟨sb, 1, none⟩ = some (.map (some rb)) := Lib.cell_of_heap h.ob 1
theorem Ls.keep {B : Nat} {w w' : World} {lb : Nat} {F F' : Nat → Prop} {n : Nat} {L : ByteArray → List Int} {S : ByteArray → Value} (h : Ls B w lb F n L S) (hl : F lb) (hk : ∀ b, F b → w'.heap[b]? = w.heap[b]?) (hF : ∀ b, F b → F' b) : Ls B w' lb F' n L S := by
  obtain ⟨f, h1, h2⟩ := h.map
  exact ⟨⟨f, h1.same (hk lb hl), h2⟩, h.nil, fun s => own_same (h.own s) (fun g hg => hk g (h.foot s g hg)), fun s g hg => hF g (h.foot s g hg), h.apart⟩
/-- What is in none of its blocks plays no part. -/
theorem St.keep {B : Nat} {w w' : World} {sb lb rb : Nat} {F : Nat → Prop} {n : Nat} {L : List MOp} (h : St B w sb lb rb F n L) {P : Nat → Prop} (hg : Gro P w w') (hP : ∀ b, F b → ¬ P b) : St B w' sb lb rb F n L := by
  have hk : ∀ b, F b → w'.heap[b]? = w.heap[b]? := fun b hb => hg.block b (h.flt b hb).2 (hP b hb)
  obtain ⟨S, hS⟩ := h.ls
  obtain ⟨f, h1, h2⟩ := h.rs
  exact ⟨(hk sb h.fs).trans h.ob, h.ne, h.fs, h.fl, h.fr, fun b hb => ⟨(h.flt b hb).1, Nat.lt_of_lt_of_le (h.flt b hb).2 hg.size⟩, ⟨S, hS.keep h.fl hk (fun _ x => x)⟩, ⟨f, h1.same (hk rb h.fr), h2⟩⟩
theorem St.later {B : Nat} {w w' : World} {sb lb rb : Nat} {F : Nat → Prop} {n : Nat} {L : List MOp} (h : St B w sb lb rb F n L) (hb : Below w.heap.size w w') : St B w' sb lb rb F n L :=
  h.keep (Gro.of_below (P := fun _ => False) hb) (fun _ _ c => c)
theorem St.wider {B : Nat} {w : World} {sb lb rb : Nat} {F F' : Nat → Prop} {n n' : Nat} {L : List MOp} (h : St B w sb lb rb F n L) (hF : ∀ b, F b → F' b) (hlt : ∀ b, F' b → B ≤ b ∧ b < w.heap.size) (hn : n ≤ n') : St B w sb lb rb F' n' L := by
  obtain ⟨S, hS⟩ := h.ls
  obtain ⟨f, h1, h2⟩ := h.rs
  obtain ⟨g, h3, h4⟩ := hS.map
  exact ⟨h.ob, h.ne, hF _ h.fs, hF _ h.fl, hF _ h.fr, hlt, ⟨S, ⟨g, h3.mono hn, h4⟩, hS.nil, hS.own, fun s g hg => hF g (hS.foot s g hg), hS.apart⟩, ⟨f, h1.mono hn, h2⟩⟩

/-- strings.Clone: the same text. -/
theorem sclone_is (s : ByteArray) (w : World) (hs : s.size ≤ 281474976710656) : Calls Tryd.prog 43 #[.string s] w fun e w' => e = .returned (.string s) ∧ Below w.heap.size w w' := by
  go_enter Tryd.func43, Tryd.ntmps43
  go_wp2_with (go_at_call 57; refine (Tryd.stringslite_Clone _ _ hs).mono ?_; rintro e w' ⟨rfl, hb⟩)
  go_ret
  exact ⟨rfl, hb⟩
theorem isMade_nil (w : World) : Calls Tryd.prog 12 #[.pointer none] w fun e w' => e = .returned (.bool false) ∧ w = w' := by
  go_enter Tryd.func12, Tryd.ntmps12
  go_wp2_with fail
  go_ret
  exact ⟨rfl, rfl⟩
theorem isMade_no (w : World) (sb : Nat) (h : w.cell? ⟨sb, 0, none⟩ = some (.map none)) : Calls Tryd.prog 12 #[.pointer (some ⟨sb, 0, none⟩)] w fun e w' => e = .returned (.bool false) ∧ w = w' := by
  have hnn := fun (w : World) (r : Option Nat) => run_neq_map_nil (P := Tryd.prog) w 46 9 47 r Tryd.underlying46
  go_enter Tryd.func12, Tryd.ntmps12
  go_wp2_with fail
  go_ret
  exact ⟨rfl, rfl⟩
theorem isMade_yes (w : World) (sb lb : Nat) (h : w.cell? ⟨sb, 0, none⟩ = some (.map (some lb))) : Calls Tryd.prog 12 #[.pointer (some ⟨sb, 0, none⟩)] w fun e w' => e = .returned (.bool true) ∧ w = w' := by
  have hnn := fun (w : World) (r : Option Nat) => run_neq_map_nil (P := Tryd.prog) w 46 9 47 r Tryd.underlying46
  go_enter Tryd.func12, Tryd.ntmps12
  go_wp2_with fail
  go_ret
  exact ⟨rfl, rfl⟩
/-- New lays three blocks. -/
theorem new_at (w : World) : Calls Tryd.prog 11 #[] w fun e w' => e = .returned (.pointer (some ⟨w.heap.size + 2, 0, none⟩)) ∧ St w.heap.size w' (w.heap.size + 2) w.heap.size (w.heap.size + 1) (fun b => w.heap.size ≤ b ∧ b < w.heap.size + 3) 0 [] ∧ w'.heap.size = w.heap.size + 3 ∧ Below w.heap.size w w' := by
  have hmm := @run_makeMap Tryd.prog
  go_enter Tryd.func11, Tryd.ntmps11
  go_wp2_with fail
  go_ret
  refine ⟨rfl, ?_, by simp, ?_⟩
  · refine ⟨?_, by omega, ⟨by omega, by omega⟩, ⟨by omega, by omega⟩, ⟨by omega, by omega⟩, fun b hb => ⟨hb.1, by simp; omega⟩, ⟨fun _ => .slice none 0 0, ⟨_, (MapV.made w Tryd.prog 9).same ?_, fun s => by simp [lstM]⟩, fun _ _ => rfl, fun s => World.ownsRow_nil _ _ _ _, fun s g hg => by simp [Value.ownBlock] at hg, fun _ _ g hg => by simp [Value.ownBlock] at hg⟩, ⟨fun _ => none, (by
      have h := MapV.made (w.alloc (.map #[] 0)) Tryd.prog 9
      rw [alloc_size] at h
      refine h.same ?_
      rw [alloc_at, if_neg (by simp)]), fun s => by simp [regM]⟩⟩
    · rw [alloc_at, if_pos (by simp)]
    · rw [alloc_at, if_neg (by simp; omega), alloc_at, if_neg (by simp)]
  · exact (((Below.refl _ _).alloc (Nat.le_refl _) _).alloc (by simp) _).alloc (by simp; omega) _
theorem new_is (w : World) : Calls Tryd.prog 11 #[] w fun e w' => ∃ sb lb rb, e = .returned (.pointer (some ⟨sb, 0, none⟩)) ∧ St w.heap.size w' sb lb rb (fun b => w.heap.size ≤ b ∧ b < w'.heap.size) 0 [] ∧ Below w.heap.size w w' :=
  (new_at w).mono fun e w' ⟨h1, h2, h3, h4⟩ => ⟨_, _, _, h1, h2.wider (fun b hb => ⟨hb.1, by omega⟩) (fun b hb => hb) (Nat.le_refl _), h4⟩
end Go.Proofs.YtjeheknhpfkaiaaDoor
