/-
  A history's tokens, plain; walks of the code's small makers of tokens; a list that grows.
-/
import Derived.Test.YtlkmciegpmpbbaaDoorHCan2
import Derived.Test.YtlkmciegpmpbbaaDoorHCopy
namespace Go.Proofs.YtlkmciegpmpbbaaDoor
set_option linter.unusedVariables false
set_option linter.unusedSimpArgs false
open Go.RowKit

/-- A token's cells. -/
def tcells (t : MTok) : List Value := [.int .i64 t.1, .int .i64 t.2.1, .string t.2.2.1, .int .i64 t.2.2.2]
/-- A list's cells. -/
def flat (l : List MTok) : List Value := (l.map tcells).flatten
theorem flat_len (l : List MTok) : (flat l).length = l.length * 4 := by
  unfold flat
  rw [flatten_len 4 _ (by intro r hr; obtain ⟨t, _, rfl⟩ := List.mem_map.1 hr; rfl)]
  simp
theorem flat_app (a b : List MTok) : flat (a ++ b) = flat a ++ flat b := by simp [flat]

abbrev wordT (s : ByteArray) : MTok := (1, 0, s, 0)
abbrev markT (b : UInt8) : MTok := (3, 0, ⟨#[b]⟩, 0)
abbrev numT (n : Int) : MTok := (2, 0, ⟨#[]⟩, n)
abbrev lineT : MTok := (4, 0, ⟨#[]⟩, 0)
def evWord (k : Int) : ByteArray := if k = 1 then ⟨#[105, 110, 118, 111, 107, 101]⟩ else if k = 2 then ⟨#[111, 107]⟩ else if k = 3 then ⟨#[102, 97, 105, 108]⟩ else ⟨#[105, 110, 102, 111]⟩
def opWord (k : Int) : ByteArray := if k = 1 then ⟨#[97, 112, 112, 101, 110, 100]⟩ else if k = 2 then ⟨#[114, 101, 97, 100]⟩ else if k = 3 then ⟨#[119, 114, 105, 116, 101]⟩ else ⟨#[103, 101, 116]⟩
/-- What stands between an operation's key and its end. -/
def midT (o : MOp) : List MTok :=
  if o.kind = 1 ∨ o.kind = 3 then [numT o.value]
  else if o.has = false then []
  else if o.kind = 2 then [markT 40] ++ o.list.map numT ++ [markT 41]
  else if o.nl = true then [wordT ⟨#[110, 105, 108]⟩]
  else [numT o.value]
def opT (o : MOp) : List MTok := [markT 91, wordT (opWord o.kind), wordT o.key] ++ midT o ++ [markT 93]
def evT (e : MEv) : List MTok := [wordT (evWord e.kind), numT e.proc] ++ e.ops.flatMap opT ++ [lineT]

theorem bl_tr {A W W' : World} (h : Below A.heap.size A W) (hb : Below W.heap.size W W') : Below A.heap.size A W' := h.trans (hb.mono h.size)

theorem word_any (s : ByteArray) (w : World) : Calls Tryd.prog 13 #[.string s] w fun e w' => e = .returned (.agg #[.int .i64 1, .int .i64 0, .string s, .int .i64 0]) ∧ Below w.heap.size w w' := by
  go_enter Tryd.func13, Tryd.ntmps13
  go_wp2_with fail
  refine bodyPost_ret (v := .agg #[.int .i64 1, .int .i64 0, .string s, .int .i64 0]) (by simp [results, Tryd.results13, go_sem]) rfl ⟨rfl, below_box _ _⟩
theorem mark_any (s : ByteArray) (w : World) : Calls Tryd.prog 27 #[.string s] w fun e w' => e = .returned (.agg #[.int .i64 3, .int .i64 0, .string s, .int .i64 0]) ∧ Below w.heap.size w w' := by
  go_enter Tryd.func27, Tryd.ntmps27
  go_wp2_with fail
  refine bodyPost_ret (v := .agg #[.int .i64 3, .int .i64 0, .string s, .int .i64 0]) (by simp [results, Tryd.results27, go_sem]) rfl ⟨rfl, below_box _ _⟩
theorem numb_any (n : Int) (w : World) : Calls Tryd.prog 15 #[.int .i64 n] w fun e w' => e = .returned (.agg #[.int .i64 2, .int .i64 0, .string ⟨#[]⟩, .int .i64 n]) ∧ Below w.heap.size w w' := by
  go_enter Tryd.func15, Tryd.ntmps15
  go_wp2_with fail
  refine bodyPost_ret (v := .agg #[.int .i64 2, .int .i64 0, .string ⟨#[]⟩, .int .i64 n]) (by simp [results, Tryd.results15, go_sem]) rfl ⟨rfl, below_box _ _⟩
theorem evWords_any (w : World) : Calls Tryd.prog 14 #[] w fun e w' => e = .returned (.agg #[.string ⟨#[]⟩, .string ⟨#[105, 110, 118, 111, 107, 101]⟩, .string ⟨#[111, 107]⟩, .string ⟨#[102, 97, 105, 108]⟩, .string ⟨#[105, 110, 102, 111]⟩]) ∧ Below w.heap.size w w' := by
  go_enter Tryd.func14, Tryd.ntmps14
  go_wp2_with fail
  refine bodyPost_ret (v := .agg #[.string ⟨#[]⟩, .string ⟨#[105, 110, 118, 111, 107, 101]⟩, .string ⟨#[111, 107]⟩, .string ⟨#[102, 97, 105, 108]⟩, .string ⟨#[105, 110, 102, 111]⟩]) (by simp [results, Tryd.results14, go_sem]) rfl ⟨rfl, below_box _ _⟩
theorem opWords_any (w : World) : Calls Tryd.prog 28 #[] w fun e w' => e = .returned (.agg #[.string ⟨#[]⟩, .string ⟨#[97, 112, 112, 101, 110, 100]⟩, .string ⟨#[114, 101, 97, 100]⟩, .string ⟨#[119, 114, 105, 116, 101]⟩, .string ⟨#[103, 101, 116]⟩]) ∧ Below w.heap.size w w' := by
  go_enter Tryd.func28, Tryd.ntmps28
  go_wp2_with fail
  refine bodyPost_ret (v := .agg #[.string ⟨#[]⟩, .string ⟨#[97, 112, 112, 101, 110, 100]⟩, .string ⟨#[114, 101, 97, 100]⟩, .string ⟨#[119, 114, 105, 116, 101]⟩, .string ⟨#[103, 101, 116]⟩]) (by simp [results, Tryd.results28, go_sem]) rfl ⟨rfl, below_box _ _⟩

theorem ix1 (w : World) (a b c d e : ByteArray) : Sem.run Tryd.prog (Instr.index 40 (.agg #[.string a, .string b, .string c, .string d, .string e]) (.int .i64 1)) w = .ok (.string b) w := by
  simp [Instr.index, run_underlying Tryd.underlying40, go_sem]
theorem ix2 (w : World) (a b c d e : ByteArray) : Sem.run Tryd.prog (Instr.index 40 (.agg #[.string a, .string b, .string c, .string d, .string e]) (.int .i64 2)) w = .ok (.string c) w := by
  simp [Instr.index, run_underlying Tryd.underlying40, go_sem]
theorem ix3 (w : World) (a b c d e : ByteArray) : Sem.run Tryd.prog (Instr.index 40 (.agg #[.string a, .string b, .string c, .string d, .string e]) (.int .i64 3)) w = .ok (.string d) w := by
  simp [Instr.index, run_underlying Tryd.underlying40, go_sem]
theorem ix4 (w : World) (a b c d e : ByteArray) : Sem.run Tryd.prog (Instr.index 40 (.agg #[.string a, .string b, .string c, .string d, .string e]) (.int .i64 4)) w = .ok (.string e) w := by
  simp [Instr.index, run_underlying Tryd.underlying40, go_sem]

/-- Room for some more. -/
theorem room_le {n a N : Nat} (hn : n ≤ a) (h : a * 40 ≤ N) : n * 40 ≤ N := Nat.le_trans (Nat.mul_le_mul_right 40 hn) h
theorem room_max {n a : Nat} (hn : n ≤ a) (h : a * 40 ≤ 140737488355328) : n ≤ maxLen := by unfold maxLen; omega
theorem n3 (a b : Nat) : a + 3 ≤ a + b + 10 := by omega
theorem n31 (a b : Nat) : a + 3 + 1 ≤ a + b + 10 := by omega
theorem n311 (a b : Nat) : a + 3 + 1 + 1 ≤ a + b + 10 := by omega
theorem nk1 {k b : Nat} (a : Nat) (h : k ≤ b) : a + 4 + k + 1 ≤ a + b + 10 := by omega
theorem nk2 (a b : Nat) : a + 4 + b + 1 + 1 ≤ a + b + 10 := by omega
/-- The same row, its length told otherwise. -/
theorem own_len {wr : World} {B : Nat} {v : Value} {l : List MTok} {n : Nat} (h : wr.ownsRow B 38 4 v l.length (flat l)) (e : l.length = n) : wr.ownsRow B 38 4 v n (flat l) := e ▸ h

/-- A list of tokens that grows, beside a box that stays: its row is its own, from B on; what was below B is as it was in w. -/
structure AP (B : Nat) (w : World) (v0 : Value) (bx : Nat) (cs : List Value) (wr : World) (v : Value) (l : List MTok) : Prop where
  own : wr.ownsRow B 38 4 v l.length (flat l)
  below : Below B w wr
  base : B ≤ w.heap.size
  box : ∀ i u, cs[i]? = some u → wr.cell? ⟨bx, i, none⟩ = some u
  lt : bx < wr.heap.size
  ne : v.ownBlock ≠ some bx
  keep : ∀ k, k < w.heap.size → some k ≠ v0.ownBlock → wr.heap[k]? = w.heap[k]?
  blk : ∀ g, v.ownBlock = some g → v0.ownBlock = some g ∨ w.heap.size ≤ g

section
variable {B : Nat} {w : World} {v0 : Value} {bx : Nat} {cs : List Value} {wr wr' : World} {v : Value} {l : List MTok}
theorem AP.size (h : AP B w v0 bx cs wr v l) : B ≤ wr.heap.size := Nat.le_trans h.base h.below.size
/-- New memory changes nothing. -/
theorem AP.later (h : AP B w v0 bx cs wr v l) (hb : Below wr.heap.size wr wr') : AP B w v0 bx cs wr' v l :=
  ⟨owns_keep h.own (fun g hg => hb.block g (h.own.lt g hg).2), h.below.trans (hb.mono h.size), h.base, fun i u hi => (hb.cell (p := ⟨bx, i, none⟩) h.lt).trans (h.box i u hi), Nat.lt_of_lt_of_le h.lt hb.size, h.ne, fun k hk hn => (hb.block k (Nat.lt_of_lt_of_le hk h.below.size)).trans (h.keep k hk hn), h.blk⟩
/-- Some tokens more. -/
theorem AP.grown (h : AP B w v0 bx cs wr v l) {ts : List MTok} {g cap n : Nat} {xs : List Value} (hn : n = (l ++ ts).length) (hx : xs = flat l ++ flat ts) (hown : wr'.ownsRow B 38 4 (.slice (some ⟨g, 0, none⟩) n cap) n xs) (hg : wr.grownBy wr' v.ownBlock) {H : Nat} (hH : wr.heap.size = H) (hat : v.ownBlock = some g ∨ g = H) :
    AP B w v0 bx cs wr' (.slice (some ⟨g, 0, none⟩) n cap) (l ++ ts) := by
  rw [← flat_app] at hx
  subst hn hx
  have hsz : wr.heap.size ≤ wr'.heap.size := hg.size
  refine ⟨hown, h.below.grown hg h.size (fun k hk => (h.own.lt k hk).1), h.base, fun i u hi => ?_, Nat.lt_of_lt_of_le h.lt hsz, ?_, fun k hk hn => ?_, fun g' hg' => ?_⟩
  · have hblk : wr'.heap[bx]? = wr.heap[bx]? := hg.block bx h.lt (fun e => h.ne e.symm)
    exact (World.cell?_of_block (w := wr) hblk).trans (h.box i u hi)
  · simp only [Value.ownBlock]
    intro e
    cases e
    rcases hat with e | e
    · exact h.ne e
    · have := h.lt; omega
  · refine (hg.block k (Nat.lt_of_lt_of_le hk h.below.size) (fun e => ?_)).trans (h.keep k hk hn)
    rcases h.blk k e.symm with e1 | e1
    · exact hn e1.symm
    · omega
  · simp only [Value.ownBlock, Option.some.injEq] at hg'
    subst hg'
    rcases hat with e | e
    · exact h.blk g e
    · right; have := h.below.size; omega

/-- A call that lets the list grow by itself. -/
theorem AP.call (h : AP B w v0 bx cs wr v l) {W w' : World} {v' : Value} {ts : List MTok} (hb : Below wr.heap.size wr W) (hown : w'.ownsRow B 38 4 v' (l ++ ts).length (flat (l ++ ts))) (hbl : Below B W w')
    (hkeep : ∀ k, k < W.heap.size → some k ≠ v.ownBlock → w'.heap[k]? = W.heap[k]?) (hblk : ∀ g, v'.ownBlock = some g → v.ownBlock = some g ∨ W.heap.size ≤ g) : AP B w v0 bx cs w' v' (l ++ ts) := by
  have h1 := h.later hb
  have hbx : w'.heap[bx]? = W.heap[bx]? := hkeep bx h1.lt (fun e => h.ne e.symm)
  have hsW : w.heap.size ≤ W.heap.size := h1.below.size
  refine ⟨hown, h1.below.trans hbl, h.base, fun i u hi => (World.cell?_of_block (w := W) hbx).trans (h1.box i u hi), Nat.lt_of_lt_of_le h1.lt hbl.size, fun e => ?_, fun k hk hn => ?_, fun g hg => ?_⟩
  · rcases hblk bx e with e1 | e1
    · exact h.ne e1
    · have := h1.lt; omega
  · refine (hkeep k (by omega) (fun e => ?_)).trans (h1.keep k hk hn)
    rcases h.blk k e.symm with e1 | e1
    · exact hn e1.symm
    · omega
  · rcases hblk g hg with e1 | e1
    · exact h.blk g e1
    · right; omega
end

end Go.Proofs.YtlkmciegpmpbbaaDoor
