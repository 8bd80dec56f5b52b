/-
  Edges of a graph: gather at edges.
-/
import Derived.Test.YtbcegdiabnapkabDoorG4
namespace Go.Proofs.YtbcegdiabnapkabDoor
set_option linter.unusedVariables false
set_option linter.unusedSimpArgs false
open Go.RowKit

theorem Tryd.info80 : (Tryd.prog.info? 37).map (fun i => (i.zero, i.size, i.bytes)) = some (some (.agg #[.int .i64 0, .int .i64 0, .int .i64 0]), 3, 24) := by kernel_rfl
theorem edgeC (f t x : Int) (kb : Nat) (w : World) (hk : w.cell? ⟨kb, 0, none⟩ = some (.int .i64 f)) :
    Calls Tryd.prog 16 #[.int .i64 t, .int .i64 x, .pointer (some ⟨kb, 0, none⟩)] w fun e w' => e = .returned (.agg #[.int .i64 f, .int .i64 t, .int .i64 x]) ∧ Below w.heap.size w w' := by
  have hlt : kb < w.heap.size := World.block_lt_of_cell? _ _ hk
  have hk' : ∀ o, (w.alloc o).cell? ⟨kb, 0, none⟩ = some (.int .i64 f) := fun o => Lib.cell?_alloc_some _ hk
  go_enter Tryd.func16, Tryd.ntmps16
  go_wp2_with fail
  refine bodyPost_ret (v := .agg #[.int .i64 f, .int .i64 t, .int .i64 x]) (by simp [results, Tryd.results16, go_sem]) rfl ⟨rfl, ?_⟩
  exact below_box _ _

/-- w' is w but for blocks of edges and new ones. -/
structure Past (w w' : World) : Prop where
  os : w'.os = w.os
  tape : w'.tape = w.tape
  output : w'.output = w.output
  size : w.heap.size ≤ w'.heap.size
  block : ∀ k, k < w.heap.size → (∀ cs fr, w.heap[k]? ≠ some (.cells cs 37 fr)) → w'.heap[k]? = w.heap[k]?
theorem Past.refl (w : World) : Past w w := ⟨rfl, rfl, rfl, Nat.le_refl _, fun _ _ _ => rfl⟩
theorem Past.of_below {w w' : World} (h : Below w.heap.size w w') : Past w w' := ⟨h.os, h.tape, h.output, h.size, fun k hk _ => h.block k hk⟩
theorem Past.trans {a b c : World} (h1 : Past a b) (h2 : Past b c) : Past a c :=
  ⟨h2.os.trans h1.os, h2.tape.trans h1.tape, h2.output.trans h1.output, Nat.le_trans h1.size h2.size, fun k hk hn => by
    have e := h1.block k hk hn
    exact (h2.block k (Nat.lt_of_lt_of_le hk h1.size) (fun cs fr h => hn cs fr (e.symm.trans h))).trans e⟩
theorem Past.grown {w w' : World} {B : Nat} {v : Value} {n : Nat} {xs : List Value} (own : w.ownsRow B 37 3 v n xs) (hg : w.grownBy w' v.ownBlock) : Past w w' :=
  ⟨hg.os, hg.tape, hg.output, hg.size, fun k hk hn => hg.block k hk (fun e => by
    rcases own.2 with ⟨hv, _⟩ | ⟨g, cap, cur, hv, _, h2, _⟩
    · rw [hv] at e; simp [Value.ownBlock] at e
    · rw [hv] at e
      simp [Value.ownBlock] at e
      subst e
      exact hn cur (0, 0) h2)⟩
theorem Past.at {w w' : World} (h : Past w w') {k : Nat} {cs : Array Value} {t : TypeId} (hk : w.heap[k]? = some (.cells cs t)) (ht : t ≠ 37) : w'.heap[k]? = some (.cells cs t) :=
  (h.block k (blt hk) (fun cs' fr e => by
    have := hk.symm.trans e
    injection this with this
    injection this with _ h2
    exact ht h2)).trans hk
theorem Is.past {w w' : World} {b n c : Nat} {f : Nat → Bool} (h : Is w b n c f) (hp : Past w w') : Is w' b n c f := by
  obtain ⟨ws, s1, s2⟩ := h.ex
  exact ⟨⟨ws, ⟨hp.at s1.box (by decide), hp.at s1.row (by decide), s1.len, s1.small, s1.bound⟩, s2⟩, h.top⟩
theorem Graph.past {w w' : World} {b n r : Nat} {bk ck : Nat → Nat} {L : Nat → Nat → Nat} (h : Graph w b n r bk ck L) (hp : Past w w') : Graph w' b n r bk ck L := by
  obtain ⟨cur, h1, h2, h3⟩ := h.row
  exact ⟨hp.at h.box (by decide), ⟨cur, hp.at h1 (by decide), h2, h3⟩, fun k hk => (h.sets k hk).past hp, h.apart, h.small, h.bound⟩
/-- An edge's cells; edges as cells. -/
def edgeV (e : Nat × Nat × Nat) : List Value := [.int .i64 e.1, .int .i64 e.2.1, .int .i64 e.2.2]
def edgesV (l : List (Nat × Nat × Nat)) : List Value := l.flatMap edgeV
theorem edgesV_snoc (l : List (Nat × Nat × Nat)) (e : Nat × Nat × Nat) : edgesV (l ++ [e]) = edgesV l ++ edgeV e := by
  unfold edgesV
  simp
/-- A slice of edges of one's own, in blocks from B on. -/
def EdgesIn (B : Nat) (w : World) (v : Value) (l : List (Nat × Nat × Nat)) : Prop := w.ownsRow B 37 3 v l.length (edgesV l)
theorem EdgesIn.later {B : Nat} {w w' : World} {v : Value} {l : List (Nat × Nat × Nat)} (h : EdgesIn B w v l) (hb : Below w.heap.size w w') : EdgesIn B w' v l :=
  World.ownsRow.kept (row := none) h ⟨hb.os, hb.tape, hb.output, hb.size, fun k hk _ => hb.block k hk⟩ (by cases hq : v.ownBlock with | none => exact .inl rfl | some g => exact .inr (by simp))
theorem EdgesIn.beside {B : Nat} {w w' : World} {v : Value} {l : List (Nat × Nat × Nat)} {b n c : Nat} {f : Nat → Bool} (h : EdgesIn B w v l) (hs : Is w b n c f) (hb : Beside c w w') : EdgesIn B w' v l := by
  refine World.ownsRow.kept (row := some c) h ⟨hb.os, hb.tape, hb.output, hb.size, fun k hk hn => hb.block k hk (fun e => hn (by rw [e]))⟩ ?_
  obtain ⟨ws, s1, s2⟩ := hs.ex
  rcases h.2 with ⟨hv, _⟩ | ⟨g, cap, cur, hv, _, h2, _⟩
  · rw [hv]; exact .inl rfl
  · rw [hv]
    right
    simp [Value.ownBlock]
    exact tags h2 s1.row (by decide)
end Go.Proofs.YtbcegdiabnapkabDoor
