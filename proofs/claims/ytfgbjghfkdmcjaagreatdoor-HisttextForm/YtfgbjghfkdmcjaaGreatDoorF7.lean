/-
  A history's tokens, plain; walks of the code's small makers of tokens; a list that grows.
  Walk of the code's appendOp at operations of kind 1.
  Walk of the code's appendOp at reads.
  Walk of the code's appendOp at operations of kind 3.
  Walk of the code's appendOp at gets.
-/
import Derived.Test.YtfgbjghfkdmcjaaGreatDoorF6
namespace Go.Proofs.YtfgbjghfkdmcjaaGreatDoor
set_option linter.unusedVariables false
set_option linter.unusedSimpArgs false
open Go.RowKit

/-- A token's cells. -/
def tcells (t : MTok) : List Value := [.int .i64 t.1, .int .i64 t.2.1, .string t.2.2.1, .int .i64 t.2.2.2]
/-- A list's cells. -/
def flat (l : List MTok) : List Value := (l.map tcells).flatten
theorem flat_len (l : List MTok) : (flat l).length = l.length * 4 := by
  unfold flat
  rw [flatten_len 4 _ (by intro r hr; obtain ⟨t, _, rfl⟩ := List.mem_map.1 hr; rfl)]
  simp
theorem flat_app (a b : List MTok) : flat (a ++ b) = flat a ++ flat b := by simp [flat]

abbrev wordT (s : ByteArray) : MTok := (1, 0, s, 0)
abbrev markT (b : UInt8) : MTok := (3, 0, ⟨#[b]⟩, 0)
abbrev numT (n : Int) : MTok := (2, 0, ⟨#[]⟩, n)
abbrev lineT : MTok := (4, 0, ⟨#[]⟩, 0)
def evWord (k : Int) : ByteArray := if k = 1 then ⟨#[105, 110, 118, 111, 107, 101]⟩ else if k = 2 then ⟨#[111, 107]⟩ else if k = 3 then ⟨#[102, 97, 105, 108]⟩ else ⟨#[105, 110, 102, 111]⟩
def opWord (k : Int) : ByteArray := if k = 1 then ⟨#[97, 112, 112, 101, 110, 100]⟩ else if k = 2 then ⟨#[114, 101, 97, 100]⟩ else if k = 3 then ⟨#[119, 114, 105, 116, 101]⟩ else ⟨#[103, 101, 116]⟩
/-- What stands between an operation's key and its end. -/
def midT (o : MOp) : List MTok :=
  if o.kind = 1 ∨ o.kind = 3 then [numT o.value]
  else if o.has = false then []
  else if o.kind = 2 then [markT 40] ++ o.list.map numT ++ [markT 41]
  else if o.nl = true then [wordT ⟨#[110, 105, 108]⟩]
  else [numT o.value]
def opT (o : MOp) : List MTok := [markT 91, wordT (opWord o.kind), wordT o.key] ++ midT o ++ [markT 93]
def evT (e : MEv) : List MTok := [wordT (evWord e.kind), numT e.proc] ++ e.ops.flatMap opT ++ [lineT]

theorem bl_tr {A W W' : World} (h : Below A.heap.size A W) (hb : Below W.heap.size W W') : Below A.heap.size A W' := h.trans (hb.mono h.size)

theorem word_any (s : ByteArray) (w : World) : Calls Tryz.prog 23 #[.string s] w fun e w' => e = .returned (.agg #[.int .i64 1, .int .i64 0, .string s, .int .i64 0]) ∧ Below w.heap.size w w' := by
  go_enter Tryz.func23, Tryz.ntmps23
  go_wp2_with fail
  refine bodyPost_ret (v := .agg #[.int .i64 1, .int .i64 0, .string s, .int .i64 0]) (by simp [results, Tryz.results23, go_sem]) rfl ⟨rfl, below_box _ _⟩
theorem mark_any (s : ByteArray) (w : World) : Calls Tryz.prog 46 #[.string s] w fun e w' => e = .returned (.agg #[.int .i64 3, .int .i64 0, .string s, .int .i64 0]) ∧ Below w.heap.size w w' := by
  go_enter Tryz.func46, Tryz.ntmps46
  go_wp2_with fail
  refine bodyPost_ret (v := .agg #[.int .i64 3, .int .i64 0, .string s, .int .i64 0]) (by simp [results, Tryz.results46, go_sem]) rfl ⟨rfl, below_box _ _⟩
theorem numb_any (n : Int) (w : World) : Calls Tryz.prog 25 #[.int .i64 n] w fun e w' => e = .returned (.agg #[.int .i64 2, .int .i64 0, .string ⟨#[]⟩, .int .i64 n]) ∧ Below w.heap.size w w' := by
  go_enter Tryz.func25, Tryz.ntmps25
  go_wp2_with fail
  refine bodyPost_ret (v := .agg #[.int .i64 2, .int .i64 0, .string ⟨#[]⟩, .int .i64 n]) (by simp [results, Tryz.results25, go_sem]) rfl ⟨rfl, below_box _ _⟩
theorem evWords_any (w : World) : Calls Tryz.prog 24 #[] w fun e w' => e = .returned (.agg #[.string ⟨#[]⟩, .string ⟨#[105, 110, 118, 111, 107, 101]⟩, .string ⟨#[111, 107]⟩, .string ⟨#[102, 97, 105, 108]⟩, .string ⟨#[105, 110, 102, 111]⟩]) ∧ Below w.heap.size w w' := by
  go_enter Tryz.func24, Tryz.ntmps24
  go_wp2_with fail
  refine bodyPost_ret (v := .agg #[.string ⟨#[]⟩, .string ⟨#[105, 110, 118, 111, 107, 101]⟩, .string ⟨#[111, 107]⟩, .string ⟨#[102, 97, 105, 108]⟩, .string ⟨#[105, 110, 102, 111]⟩]) (by simp [results, Tryz.results24, go_sem]) rfl ⟨rfl, below_box _ _⟩
theorem opWords_any (w : World) : Calls Tryz.prog 47 #[] w fun e w' => e = .returned (.agg #[.string ⟨#[]⟩, .string ⟨#[97, 112, 112, 101, 110, 100]⟩, .string ⟨#[114, 101, 97, 100]⟩, .string ⟨#[119, 114, 105, 116, 101]⟩, .string ⟨#[103, 101, 116]⟩]) ∧ Below w.heap.size w w' := by
  go_enter Tryz.func47, Tryz.ntmps47
  go_wp2_with fail
  refine bodyPost_ret (v := .agg #[.string ⟨#[]⟩, .string ⟨#[97, 112, 112, 101, 110, 100]⟩, .string ⟨#[114, 101, 97, 100]⟩, .string ⟨#[119, 114, 105, 116, 101]⟩, .string ⟨#[103, 101, 116]⟩]) (by simp [results, Tryz.results47, go_sem]) rfl ⟨rfl, below_box _ _⟩

theorem ix1 (w : World) (a b c d e : ByteArray) : Sem.run Tryz.prog (Instr.index 65 (.agg #[.string a, .string b, .string c, .string d, .string e]) (.int .i64 1)) w = .ok (.string b) w := by
  simp [Instr.index, run_underlying Tryz.underlying65, go_sem]
theorem ix2 (w : World) (a b c d e : ByteArray) : Sem.run Tryz.prog (Instr.index 65 (.agg #[.string a, .string b, .string c, .string d, .string e]) (.int .i64 2)) w = .ok (.string c) w := by
  simp [Instr.index, run_underlying Tryz.underlying65, go_sem]
theorem ix3 (w : World) (a b c d e : ByteArray) : Sem.run Tryz.prog (Instr.index 65 (.agg #[.string a, .string b, .string c, .string d, .string e]) (.int .i64 3)) w = .ok (.string d) w := by
  simp [Instr.index, run_underlying Tryz.underlying65, go_sem]
theorem ix4 (w : World) (a b c d e : ByteArray) : Sem.run Tryz.prog (Instr.index 65 (.agg #[.string a, .string b, .string c, .string d, .string e]) (.int .i64 4)) w = .ok (.string e) w := by
  simp [Instr.index, run_underlying Tryz.underlying65, go_sem]

/-- Room for some more. -/
theorem room_le {n a N : Nat} (hn : n ≤ a) (h : a * 40 ≤ N) : n * 40 ≤ N := Nat.le_trans (Nat.mul_le_mul_right 40 hn) h
theorem room_max {n a : Nat} (hn : n ≤ a) (h : a * 40 ≤ 140737488355328) : n ≤ maxLen := by unfold maxLen; omega
theorem n3 (a b : Nat) : a + 3 ≤ a + b + 10 := by omega
theorem n31 (a b : Nat) : a + 3 + 1 ≤ a + b + 10 := by omega
theorem n311 (a b : Nat) : a + 3 + 1 + 1 ≤ a + b + 10 := by omega
theorem nk1 {k b : Nat} (a : Nat) (h : k ≤ b) : a + 4 + k + 1 ≤ a + b + 10 := by omega
theorem nk2 (a b : Nat) : a + 4 + b + 1 + 1 ≤ a + b + 10 := by omega
/-- The same row, its length told otherwise. -/
theorem own_len {wr : World} {B : Nat} {v : Value} {l : List MTok} {n : Nat} (h : wr.ownsRow B 51 4 v l.length (flat l)) (e : l.length = n) : wr.ownsRow B 51 4 v n (flat l) := e ▸ h

/-- A list of tokens that grows, beside a box that stays: its row is its own, from B on; what was below B is as it was in w. -/
structure AP (B : Nat) (w : World) (v0 : Value) (bx : Nat) (cs : List Value) (wr : World) (v : Value) (l : List MTok) : Prop where
  own : wr.ownsRow B 51 4 v l.length (flat l)
  below : Below B w wr
  base : B ≤ w.heap.size
  box : ∀ i u, cs[i]? = some u → wr.cell? ⟨bx, i, none⟩ = some u
  lt : bx < wr.heap.size
  ne : v.ownBlock ≠ some bx
  keep : ∀ k, k < w.heap.size → some k ≠ v0.ownBlock → wr.heap[k]? = w.heap[k]?
  blk : ∀ g, v.ownBlock = some g → v0.ownBlock = some g ∨ w.heap.size ≤ g

section
variable {B : Nat} {w : World} {v0 : Value} {bx : Nat} {cs : List Value} {wr wr' : World} {v : Value} {l : List MTok}
theorem AP.size (h : AP B w v0 bx cs wr v l) : B ≤ wr.heap.size := Nat.le_trans h.base h.below.size
/-- New memory changes nothing. -/
theorem AP.later (h : AP B w v0 bx cs wr v l) (hb : Below wr.heap.size wr wr') : AP B w v0 bx cs wr' v l :=
  ⟨owns_keep h.own (fun g hg => hb.block g (h.own.lt g hg).2), h.below.trans (hb.mono h.size), h.base, fun i u hi => (hb.cell (p := ⟨bx, i, none⟩) h.lt).trans (h.box i u hi), Nat.lt_of_lt_of_le h.lt hb.size, h.ne, fun k hk hn => (hb.block k (Nat.lt_of_lt_of_le hk h.below.size)).trans (h.keep k hk hn), h.blk⟩
/-- Some tokens more. -/
theorem AP.grown (h : AP B w v0 bx cs wr v l) {ts : List MTok} {g cap n : Nat} {xs : List Value} (hn : n = (l ++ ts).length) (hx : xs = flat l ++ flat ts) (hown : wr'.ownsRow B 51 4 (.slice (some ⟨g, 0, none⟩) n cap) n xs) (hg : wr.grownBy wr' v.ownBlock) {H : Nat} (hH : wr.heap.size = H) (hat : v.ownBlock = some g ∨ g = H) :
    AP B w v0 bx cs wr' (.slice (some ⟨g, 0, none⟩) n cap) (l ++ ts) := by
  rw [← flat_app] at hx
  subst hn hx
  have hsz : wr.heap.size ≤ wr'.heap.size := hg.size
  refine ⟨hown, h.below.grown hg h.size (fun k hk => (h.own.lt k hk).1), h.base, fun i u hi => ?_, Nat.lt_of_lt_of_le h.lt hsz, ?_, fun k hk hn => ?_, fun g' hg' => ?_⟩
  · have hblk : wr'.heap[bx]? = wr.heap[bx]? := hg.block bx h.lt (fun e => h.ne e.symm)
    exact (World.cell?_of_block (w := wr) hblk).trans (h.box i u hi)
  · simp only [Value.ownBlock]
    intro e
    cases e
    rcases hat with e | e
    · exact h.ne e
    · have := h.lt; omega
  · refine (hg.block k (Nat.lt_of_lt_of_le hk h.below.size) (fun e => ?_)).trans (h.keep k hk hn)
    rcases h.blk k e.symm with e1 | e1
    · exact hn e1.symm
    · omega
  · simp only [Value.ownBlock, Option.some.injEq] at hg'
    subst hg'
    rcases hat with e | e
    · exact h.blk g e
    · right; have := h.below.size; omega

/-- A call that lets the list grow by itself. -/
theorem AP.call (h : AP B w v0 bx cs wr v l) {W w' : World} {v' : Value} {ts : List MTok} (hb : Below wr.heap.size wr W) (hown : w'.ownsRow B 51 4 v' (l ++ ts).length (flat (l ++ ts))) (hbl : Below B W w')
    (hkeep : ∀ k, k < W.heap.size → some k ≠ v.ownBlock → w'.heap[k]? = W.heap[k]?) (hblk : ∀ g, v'.ownBlock = some g → v.ownBlock = some g ∨ W.heap.size ≤ g) : AP B w v0 bx cs w' v' (l ++ ts) := by
  have h1 := h.later hb
  have hbx : w'.heap[bx]? = W.heap[bx]? := hkeep bx h1.lt (fun e => h.ne e.symm)
  have hsW : w.heap.size ≤ W.heap.size := h1.below.size
  refine ⟨hown, h1.below.trans hbl, h.base, fun i u hi => (World.cell?_of_block (w := W) hbx).trans (h1.box i u hi), Nat.lt_of_lt_of_le h1.lt hbl.size, fun e => ?_, fun k hk hn => ?_, fun g hg => ?_⟩
  · rcases hblk bx e with e1 | e1
    · exact h.ne e1
    · have := h1.lt; omega
  · refine (hkeep k (by omega) (fun e => ?_)).trans (h1.keep k hk hn)
    rcases h.blk k e.symm with e1 | e1
    · exact hn e1.symm
    · omega
  · rcases hblk g hg with e1 | e1
    · exact h.blk g e1
    · right; omega
end

end Go.Proofs.YtfgbjghfkdmcjaaGreatDoor
namespace Go.Proofs.YtfgbjghfkdmcjaaGreatDoor
set_option linter.unusedVariables false
set_option linter.unusedSimpArgs false
open Go.RowKit

set_option maxHeartbeats 8000000 in
set_option maxRecDepth 100000 in
theorem appendOp_1 (B : Nat) (s : ByteArray) (vl : Int) (il : List Int) (hs nl : Bool) (lv : Value) (v : Value) (l : List MTok) (w : World) (hB : B ≤ w.heap.size) (own : w.ownsRow B 51 4 v l.length (flat l)) (hroom : (l.length + il.length + 10) * 40 ≤ 140737488355328) (hl : IntsIn (fun b => b < B) w lv il) :
    Calls Tryz.prog 26 #[v, .agg #[.int .i64 1, .string s, .int .i64 vl, lv, .bool hs, .bool nl]] w fun e w' => ∃ v', e = .returned v' ∧ w'.ownsRow B 51 4 v' (l ++ opT (1, s, vl, il, hs, nl)).length (flat (l ++ opT (1, s, vl, il, hs, nl))) ∧ Below B w w' ∧ (∀ k, k < w.heap.size → some k ≠ v.ownBlock → w'.heap[k]? = w.heap[k]?) ∧ ∀ g, v'.ownBlock = some g → v.ownBlock = some g ∨ w.heap.size ≤ g := by
  obtain ⟨i0, hi, hz0, hz1, hz2⟩ := info_parts Tryz.infoTok
  obtain ⟨a1, cc1, rfl, hlb, hlc⟩ := id hl
  have HLC := hid hlc
  have hbw : Below B w (w.alloc (.cells #[.int .i64 1, .string s, .int .i64 vl, .slice a1 il.length cc1, .bool hs, .bool nl] 70)) := (Below.refl _ _).alloc hB _
  have hap : AP B w v w.heap.size [.int .i64 1, .string s, .int .i64 vl, .slice a1 il.length cc1, .bool hs, .bool nl] (w.alloc (.cells #[.int .i64 1, .string s, .int .i64 vl, .slice a1 il.length cc1, .bool hs, .bool nl] 70)) v l :=
    ⟨owns_keep own (fun g hg => Lib.alloc_old w _ g (own.lt g hg).2), hbw, hB, fun i u hi => (new_cells w _ 70 i).trans (by simpa using hi), by simp, fun e => by have := (own.lt _ e).2; omega, fun k hk _ => Lib.alloc_old w _ k hk, fun g hg => .inl hg⟩
  have P0 := hid hap
  clear hap hbw hl hlc own hB
  go_enter Tryz.func26, Tryz.ntmps26
  go_wp2_with fail
  generalize w.alloc (.cells #[.int .i64 1, .string s, .int .i64 vl, .slice a1 il.length cc1, .bool hs, .bool nl] 70) = w5 at P0 ⊢
  have x0 : w5.cell? ⟨w.heap.size, 0, none⟩ = _ := P0.out.box 0 _ rfl
  have x1 : w5.cell? ⟨w.heap.size, 1, none⟩ = _ := P0.out.box 1 _ rfl
  have IX := fun W => ix1 W ⟨#[]⟩ ⟨#[97, 112, 112, 101, 110, 100]⟩ ⟨#[114, 101, 97, 100]⟩ ⟨#[119, 114, 105, 116, 101]⟩ ⟨#[103, 101, 116]⟩
  go_region_held3 (fun w' => w'.cell? ⟨w.heap.size, 0, none⟩ = some (.int .i64 1) ∧ w'.cell? ⟨w.heap.size, 1, none⟩ = some (.string s))
    (first | exact ⟨x0, x1⟩ | exact ⟨y0 _, y1 _⟩ | exact ⟨P1.out.box 0 _ rfl, P1.out.box 1 _ rfl⟩ | go_keep)
    ((first
      | (refine step_append_lies _ (by rfl) _ _ 34 (by rfl) B 51 i0 _ 4 40 Tryz.underlying34 hi hz0 hz1 hz2 rfl (by decide) v l.length (flat l) (by rfl) (P0.out.later (below_box w5 _)).own ⟨w5.heap.size, 0, none⟩ 3 3 [.int .i64 3, .int .i64 0, .string ⟨#[91]⟩, .int .i64 0, .int .i64 1, .int .i64 0, .string ⟨#[97, 112, 112, 101, 110, 100]⟩, .int .i64 0, .int .i64 1, .int .i64 0, .string s, .int .i64 0] (by rfl) (by rfl) (World.news_of_block (cs := #[.int .i64 3, .int .i64 0, .string ⟨#[91]⟩, .int .i64 0, .int .i64 1, .int .i64 0, .string ⟨#[97, 112, 112, 101, 110, 100]⟩, .int .i64 0, .int .i64 1, .int .i64 0, .string s, .int .i64 0]) (t := 51) (fr := (0, 0)) (heap_alloc_new w5 _)) (by simp [Value.oneCell']) (by decide) (room_max (n3 _ _) hroom) (room_le (n3 _ _) hroom) (P0.out.later (below_box w5 _)).size (w5.heap.size + 1) (by simp) ?_
         intro g cap w6 hown hgrow hat hglt
         have P1 := hid ((P0.out.later (below_box w5 (.cells #[.int .i64 3, .int .i64 0, .string ⟨#[91]⟩, .int .i64 0, .int .i64 1, .int .i64 0, .string ⟨#[97, 112, 112, 101, 110, 100]⟩, .int .i64 0, .int .i64 1, .int .i64 0, .string s, .int .i64 0] 51))).grown (ts := [markT 91, wordT ⟨#[97, 112, 112, 101, 110, 100]⟩, wordT s]) (by simp) rfl hown hgrow (by simp) hat)
         clear hown hgrow hat hglt)
      | (go_at_call 47
         refine (opWords_any _).mono ?_
         rintro e w5 ⟨rfl, b5⟩
         have P0 := hid (P0.out.later (Below.trans (by repeat (first | exact Below.refl _ _ | apply Below.drew)) b5))
         have x0 : w5.cell? ⟨w.heap.size, 0, none⟩ = _ := P0.out.box 0 _ rfl
         have x1 : w5.cell? ⟨w.heap.size, 1, none⟩ = _ := P0.out.box 1 _ rfl
         have y0 : ∀ o, (w5.alloc o).cell? ⟨w.heap.size, 0, none⟩ = _ := fun o => Lib.cell?_alloc_some _ x0
         have y1 : ∀ o, (w5.alloc o).cell? ⟨w.heap.size, 1, none⟩ = _ := fun o => Lib.cell?_alloc_some _ x1
         clear b5)
      | (go_at_call 23
         refine (word_any _ _).mono ?_
         rintro e w5 ⟨rfl, b5⟩
         have P0 := hid (P0.out.later (Below.trans (by repeat (first | exact Below.refl _ _ | apply Below.drew)) b5))
         have x0 : w5.cell? ⟨w.heap.size, 0, none⟩ = _ := P0.out.box 0 _ rfl
         have x1 : w5.cell? ⟨w.heap.size, 1, none⟩ = _ := P0.out.box 1 _ rfl
         have y0 : ∀ o, (w5.alloc o).cell? ⟨w.heap.size, 0, none⟩ = _ := fun o => Lib.cell?_alloc_some _ x0
         have y1 : ∀ o, (w5.alloc o).cell? ⟨w.heap.size, 1, none⟩ = _ := fun o => Lib.cell?_alloc_some _ x1
         clear b5)
      | (go_at_call 46
         refine (mark_any ⟨#[91]⟩ _).mono ?_
         rintro e w5 ⟨rfl, b5⟩
         have P0 := hid (P0.out.later (Below.trans (by repeat (first | exact Below.refl _ _ | apply Below.drew)) b5))
         have x0 : w5.cell? ⟨w.heap.size, 0, none⟩ = _ := P0.out.box 0 _ rfl
         have x1 : w5.cell? ⟨w.heap.size, 1, none⟩ = _ := P0.out.box 1 _ rfl
         have y0 : ∀ o, (w5.alloc o).cell? ⟨w.heap.size, 0, none⟩ = _ := fun o => Lib.cell?_alloc_some _ x0
         have y1 : ∀ o, (w5.alloc o).cell? ⟨w.heap.size, 1, none⟩ = _ := fun o => Lib.cell?_alloc_some _ x1
         clear b5)))
  clear x0 x1 y0 y1
  have c0 : w6.cell? ⟨w.heap.size, 0, none⟩ = _ := P1.out.box 0 _ rfl
  have c1 : w6.cell? ⟨w.heap.size, 1, none⟩ = _ := P1.out.box 1 _ rfl
  have c2 : w6.cell? ⟨w.heap.size, 2, none⟩ = _ := P1.out.box 2 _ rfl
  have c3 : w6.cell? ⟨w.heap.size, 3, none⟩ = _ := P1.out.box 3 _ rfl
  have c4 : w6.cell? ⟨w.heap.size, 4, none⟩ = _ := P1.out.box 4 _ rfl
  have c5 : w6.cell? ⟨w.heap.size, 5, none⟩ = _ := P1.out.box 5 _ rfl
  go_wp2_with fail
  refine (numb_any vl _).mono ?_
  rintro e ya ⟨rfl, b5⟩
  have yA := hid ((P1.out.later b5).later (below_box ya (.cells #[.int .i64 2, .int .i64 0, .string ⟨#[]⟩, .int .i64 vl] 51)))
  clear b5
  go_wp2_with (at_builtin; refine wpList_append_lies _ rfl _ _ 34 rfl B 51 i0 _ 4 40 Tryz.underlying34 hi hz0 hz1 hz2 rfl (by decide) _ (l.length + 3) _ rfl (own_len yA.out.own (by simp)) ⟨ya.heap.size, 0, none⟩ 1 1 [.int .i64 2, .int .i64 0, .string ⟨#[]⟩, .int .i64 vl] rfl rfl (World.news_of_block (cs := #[.int .i64 2, .int .i64 0, .string ⟨#[]⟩, .int .i64 vl]) (t := 51) (fr := (0, 0)) (heap_alloc_new ya _)) (by simp [Value.oneCell']) (by decide) (room_max (n31 _ _) hroom) (room_le (n31 _ _) hroom) yA.out.size (ya.heap.size + 1) (by simp) ?_; intro gy capy y hown hgrow hat hglt)
  have yP := hid (yA.out.grown (ts := [numT vl]) (by simp) rfl hown hgrow (by simp) hat)
  clear hown hgrow hat hglt
  go_wp2_with fail
  refine (mark_any ⟨#[93]⟩ _).mono ?_
  rintro e za ⟨rfl, b5⟩
  have zA := hid ((yP.out.later b5).later (below_box za (.cells #[.int .i64 3, .int .i64 0, .string ⟨#[93]⟩, .int .i64 0] 51)))
  clear b5
  go_wp2_with (at_builtin; refine wpList_append_lies _ rfl _ _ 34 rfl B 51 i0 _ 4 40 Tryz.underlying34 hi hz0 hz1 hz2 rfl (by decide) _ (l.length + 3 + 1) _ rfl (own_len zA.out.own (by simp)) ⟨za.heap.size, 0, none⟩ 1 1 [.int .i64 3, .int .i64 0, .string ⟨#[93]⟩, .int .i64 0] rfl rfl (World.news_of_block (cs := #[.int .i64 3, .int .i64 0, .string ⟨#[93]⟩, .int .i64 0]) (t := 51) (fr := (0, 0)) (heap_alloc_new za _)) (by simp [Value.oneCell']) (by decide) (room_max (n311 _ _) hroom) (room_le (n311 _ _) hroom) zA.out.size (za.heap.size + 1) (by simp) ?_; intro gz capz z hown hgrow hat hglt)
  have zP := hid (zA.out.grown (ts := [markT 93]) (by simp) rfl hown hgrow (by simp) hat)
  clear hown hgrow hat hglt
  go_wp2_with fail
  go_ret
  refine ⟨_, rfl, ?_, zP.out.below, zP.out.keep, zP.out.blk⟩
  have hz : l ++ opT (1, s, vl, il, hs, nl) = ((l ++ [markT 91, wordT ⟨#[97, 112, 112, 101, 110, 100]⟩, wordT s]) ++ [numT vl]) ++ [markT 93] := by simp [opT, midT, opWord, MOp.kind, MOp.key, MOp.value, MOp.list, MOp.has, MOp.nl]
  rw [hz]
  have hzo := zP.out.own
  simpa using hzo

end Go.Proofs.YtfgbjghfkdmcjaaGreatDoor
namespace Go.Proofs.YtfgbjghfkdmcjaaGreatDoor
set_option linter.unusedVariables false
set_option linter.unusedSimpArgs false
open Go.RowKit

set_option maxHeartbeats 8000000 in
set_option maxRecDepth 100000 in
theorem appendOp_2 (B : Nat) (s : ByteArray) (vl : Int) (il : List Int) (hs nl : Bool) (lv : Value) (v : Value) (l : List MTok) (w : World) (hB : B ≤ w.heap.size) (own : w.ownsRow B 51 4 v l.length (flat l)) (hroom : (l.length + il.length + 10) * 40 ≤ 140737488355328) (hl : IntsIn (fun b => b < B) w lv il) :
    Calls Tryz.prog 26 #[v, .agg #[.int .i64 2, .string s, .int .i64 vl, lv, .bool hs, .bool nl]] w fun e w' => ∃ v', e = .returned v' ∧ w'.ownsRow B 51 4 v' (l ++ opT (2, s, vl, il, hs, nl)).length (flat (l ++ opT (2, s, vl, il, hs, nl))) ∧ Below B w w' ∧ (∀ k, k < w.heap.size → some k ≠ v.ownBlock → w'.heap[k]? = w.heap[k]?) ∧ ∀ g, v'.ownBlock = some g → v.ownBlock = some g ∨ w.heap.size ≤ g := by
  obtain ⟨i0, hi, hz0, hz1, hz2⟩ := info_parts Tryz.infoTok
  obtain ⟨a1, cc1, rfl, hlb, hlc⟩ := id hl
  have HLC := hid hlc
  have hbw : Below B w (w.alloc (.cells #[.int .i64 2, .string s, .int .i64 vl, .slice a1 il.length cc1, .bool hs, .bool nl] 70)) := (Below.refl _ _).alloc hB _
  have hap : AP B w v w.heap.size [.int .i64 2, .string s, .int .i64 vl, .slice a1 il.length cc1, .bool hs, .bool nl] (w.alloc (.cells #[.int .i64 2, .string s, .int .i64 vl, .slice a1 il.length cc1, .bool hs, .bool nl] 70)) v l :=
    ⟨owns_keep own (fun g hg => Lib.alloc_old w _ g (own.lt g hg).2), hbw, hB, fun i u hi => (new_cells w _ 70 i).trans (by simpa using hi), by simp, fun e => by have := (own.lt _ e).2; omega, fun k hk _ => Lib.alloc_old w _ k hk, fun g hg => .inl hg⟩
  have P0 := hid hap
  clear hap hbw hl hlc own hB
  go_enter Tryz.func26, Tryz.ntmps26
  go_wp2_with fail
  generalize w.alloc (.cells #[.int .i64 2, .string s, .int .i64 vl, .slice a1 il.length cc1, .bool hs, .bool nl] 70) = w5 at P0 ⊢
  have x0 : w5.cell? ⟨w.heap.size, 0, none⟩ = _ := P0.out.box 0 _ rfl
  have x1 : w5.cell? ⟨w.heap.size, 1, none⟩ = _ := P0.out.box 1 _ rfl
  have IX := fun W => ix2 W ⟨#[]⟩ ⟨#[97, 112, 112, 101, 110, 100]⟩ ⟨#[114, 101, 97, 100]⟩ ⟨#[119, 114, 105, 116, 101]⟩ ⟨#[103, 101, 116]⟩
  go_region_held3 (fun w' => w'.cell? ⟨w.heap.size, 0, none⟩ = some (.int .i64 2) ∧ w'.cell? ⟨w.heap.size, 1, none⟩ = some (.string s))
    (first | exact ⟨x0, x1⟩ | exact ⟨y0 _, y1 _⟩ | exact ⟨P1.out.box 0 _ rfl, P1.out.box 1 _ rfl⟩ | go_keep)
    ((first
      | (refine step_append_lies _ (by rfl) _ _ 34 (by rfl) B 51 i0 _ 4 40 Tryz.underlying34 hi hz0 hz1 hz2 rfl (by decide) v l.length (flat l) (by rfl) (P0.out.later (below_box w5 _)).own ⟨w5.heap.size, 0, none⟩ 3 3 [.int .i64 3, .int .i64 0, .string ⟨#[91]⟩, .int .i64 0, .int .i64 1, .int .i64 0, .string ⟨#[114, 101, 97, 100]⟩, .int .i64 0, .int .i64 1, .int .i64 0, .string s, .int .i64 0] (by rfl) (by rfl) (World.news_of_block (cs := #[.int .i64 3, .int .i64 0, .string ⟨#[91]⟩, .int .i64 0, .int .i64 1, .int .i64 0, .string ⟨#[114, 101, 97, 100]⟩, .int .i64 0, .int .i64 1, .int .i64 0, .string s, .int .i64 0]) (t := 51) (fr := (0, 0)) (heap_alloc_new w5 _)) (by simp [Value.oneCell']) (by decide) (room_max (n3 _ _) hroom) (room_le (n3 _ _) hroom) (P0.out.later (below_box w5 _)).size (w5.heap.size + 1) (by simp) ?_
         intro g cap w6 hown hgrow hat hglt
         have P1 := hid ((P0.out.later (below_box w5 (.cells #[.int .i64 3, .int .i64 0, .string ⟨#[91]⟩, .int .i64 0, .int .i64 1, .int .i64 0, .string ⟨#[114, 101, 97, 100]⟩, .int .i64 0, .int .i64 1, .int .i64 0, .string s, .int .i64 0] 51))).grown (ts := [markT 91, wordT ⟨#[114, 101, 97, 100]⟩, wordT s]) (by simp) rfl hown hgrow (by simp) hat)
         clear hown hgrow hat hglt)
      | (go_at_call 47
         refine (opWords_any _).mono ?_
         rintro e w5 ⟨rfl, b5⟩
         have P0 := hid (P0.out.later (Below.trans (by repeat (first | exact Below.refl _ _ | apply Below.drew)) b5))
         have x0 : w5.cell? ⟨w.heap.size, 0, none⟩ = _ := P0.out.box 0 _ rfl
         have x1 : w5.cell? ⟨w.heap.size, 1, none⟩ = _ := P0.out.box 1 _ rfl
         have y0 : ∀ o, (w5.alloc o).cell? ⟨w.heap.size, 0, none⟩ = _ := fun o => Lib.cell?_alloc_some _ x0
         have y1 : ∀ o, (w5.alloc o).cell? ⟨w.heap.size, 1, none⟩ = _ := fun o => Lib.cell?_alloc_some _ x1
         clear b5)
      | (go_at_call 23
         refine (word_any _ _).mono ?_
         rintro e w5 ⟨rfl, b5⟩
         have P0 := hid (P0.out.later (Below.trans (by repeat (first | exact Below.refl _ _ | apply Below.drew)) b5))
         have x0 : w5.cell? ⟨w.heap.size, 0, none⟩ = _ := P0.out.box 0 _ rfl
         have x1 : w5.cell? ⟨w.heap.size, 1, none⟩ = _ := P0.out.box 1 _ rfl
         have y0 : ∀ o, (w5.alloc o).cell? ⟨w.heap.size, 0, none⟩ = _ := fun o => Lib.cell?_alloc_some _ x0
         have y1 : ∀ o, (w5.alloc o).cell? ⟨w.heap.size, 1, none⟩ = _ := fun o => Lib.cell?_alloc_some _ x1
         clear b5)
      | (go_at_call 46
         refine (mark_any ⟨#[91]⟩ _).mono ?_
         rintro e w5 ⟨rfl, b5⟩
         have P0 := hid (P0.out.later (Below.trans (by repeat (first | exact Below.refl _ _ | apply Below.drew)) b5))
         have x0 : w5.cell? ⟨w.heap.size, 0, none⟩ = _ := P0.out.box 0 _ rfl
         have x1 : w5.cell? ⟨w.heap.size, 1, none⟩ = _ := P0.out.box 1 _ rfl
         have y0 : ∀ o, (w5.alloc o).cell? ⟨w.heap.size, 0, none⟩ = _ := fun o => Lib.cell?_alloc_some _ x0
         have y1 : ∀ o, (w5.alloc o).cell? ⟨w.heap.size, 1, none⟩ = _ := fun o => Lib.cell?_alloc_some _ x1
         clear b5)))
  clear x0 x1 y0 y1
  have c0 : w6.cell? ⟨w.heap.size, 0, none⟩ = _ := P1.out.box 0 _ rfl
  have c1 : w6.cell? ⟨w.heap.size, 1, none⟩ = _ := P1.out.box 1 _ rfl
  have c2 : w6.cell? ⟨w.heap.size, 2, none⟩ = _ := P1.out.box 2 _ rfl
  have c3 : w6.cell? ⟨w.heap.size, 3, none⟩ = _ := P1.out.box 3 _ rfl
  have c4 : w6.cell? ⟨w.heap.size, 4, none⟩ = _ := P1.out.box 4 _ rfl
  have c5 : w6.cell? ⟨w.heap.size, 5, none⟩ = _ := P1.out.box 5 _ rfl
  cases hs with
  | false =>
    go_wp2_with fail
    refine (mark_any ⟨#[93]⟩ _).mono ?_
    rintro e za ⟨rfl, b5⟩
    have zA := hid ((P1.out.later b5).later (below_box za (.cells #[.int .i64 3, .int .i64 0, .string ⟨#[93]⟩, .int .i64 0] 51)))
    clear b5
    go_wp2_with (at_builtin; refine wpList_append_lies _ rfl _ _ 34 rfl B 51 i0 _ 4 40 Tryz.underlying34 hi hz0 hz1 hz2 rfl (by decide) _ (l.length + 3) _ rfl (own_len zA.out.own (by simp)) ⟨za.heap.size, 0, none⟩ 1 1 [.int .i64 3, .int .i64 0, .string ⟨#[93]⟩, .int .i64 0] rfl rfl (World.news_of_block (cs := #[.int .i64 3, .int .i64 0, .string ⟨#[93]⟩, .int .i64 0]) (t := 51) (fr := (0, 0)) (heap_alloc_new za _)) (by simp [Value.oneCell']) (by decide) (room_max (n31 _ _) hroom) (room_le (n31 _ _) hroom) zA.out.size (za.heap.size + 1) (by simp) ?_; intro gz capz z hown hgrow hat hglt)
    have zP := hid (zA.out.grown (ts := [markT 93]) (by simp) rfl hown hgrow (by simp) hat)
    clear hown hgrow hat hglt
    go_wp2_with fail
    go_ret
    refine ⟨_, rfl, ?_, zP.out.below, zP.out.keep, zP.out.blk⟩
    have hz : l ++ opT (2, s, vl, il, false, nl) = (l ++ [markT 91, wordT ⟨#[114, 101, 97, 100]⟩, wordT s]) ++ [markT 93] := by simp [opT, midT, opWord, MOp.kind, MOp.key, MOp.value, MOp.list, MOp.has, MOp.nl]
    rw [hz]
    have hzo := zP.out.own
    simpa using hzo
  | true =>
    go_wp2_with fail
    refine (mark_any ⟨#[40]⟩ _).mono ?_
    rintro e ya ⟨rfl, b5⟩
    have yA := hid ((P1.out.later b5).later (below_box ya (.cells #[.int .i64 3, .int .i64 0, .string ⟨#[40]⟩, .int .i64 0] 51)))
    clear b5
    go_wp2_with (at_builtin; refine wpList_append_lies _ rfl _ _ 34 rfl B 51 i0 _ 4 40 Tryz.underlying34 hi hz0 hz1 hz2 rfl (by decide) _ (l.length + 3) _ rfl (own_len yA.out.own (by simp)) ⟨ya.heap.size, 0, none⟩ 1 1 [.int .i64 3, .int .i64 0, .string ⟨#[40]⟩, .int .i64 0] rfl rfl (World.news_of_block (cs := #[.int .i64 3, .int .i64 0, .string ⟨#[40]⟩, .int .i64 0]) (t := 51) (fr := (0, 0)) (heap_alloc_new ya _)) (by simp [Value.oneCell']) (by decide) (room_max (n31 _ _) hroom) (room_le (n31 _ _) hroom) yA.out.size (ya.heap.size + 1) (by simp) ?_; intro gy capy y hown hgrow hat hglt; have y3 : y.cell? ⟨w.heap.size, 3, none⟩ = _ := (yA.out.grown (ts := [markT 40]) (by simp) rfl hown hgrow (by simp) hat).box 3 _ rfl)
    have yP := hid (yA.out.grown (ts := [markT 40]) (by simp) rfl hown hgrow (by simp) hat)
    clear hown hgrow hat hglt
    clear y3 c0 c1 c2 c3 c4 c5
    go_loopg [0, 55] il.length (fun g vr i wr => ∃ k : Nat, k ≤ il.length ∧ il.length - k ≤ g ∧ i = .int .i64 k ∧ Aside (AP B w v w.heap.size [.int .i64 2, .string s, .int .i64 vl, .slice a1 il.length cc1, .bool true, .bool nl] wr vr ((l ++ [markT 91, wordT ⟨#[114, 101, 97, 100]⟩, wordT s]) ++ [markT 40] ++ (il.take k).map numT)))
    case atStart => exact ⟨0, Nat.zero_le _, by omega, rfl, by rw [List.take_zero, List.map_nil, List.append_nil]; exact yP.out⟩
    case round =>
      obtain ⟨k, hk, hg, rfl, I⟩ := hrel
      by_cases hlt : k < il.length
      · have hlti : (k : Int) < (il.length : Int) := by omega
        obtain ⟨b1, o1, rfl, hbB, hcc⟩ := HLC.out (by omega)
        have d0 : wr.cell? ⟨b1, o1 + k, none⟩ = some (.int .i64 (il.getD k default)) := (I.out.below.cell (p := ⟨b1, o1 + k, none⟩) hbB).trans (hcc k hlt)
        clear hcc
        have HT : Hid ((il.take (k + 1)).map numT = (il.take k).map numT ++ [numT (il.getD k default)]) := by
          show (il.take (k + 1)).map numT = _
          have e : il.getD k default = il[k] := by simp [List.getD, List.getElem?_eq_getElem hlt]
          rw [List.take_succ_eq_append_getElem hlt, e, List.map_append]
          rfl
        have hlenE : ((l ++ [markT 91, wordT ⟨#[114, 101, 97, 100]⟩, wordT s]) ++ [markT 40] ++ (il.take k).map numT).length = l.length + 4 + k := by simp; omega
        generalize il.getD k default = x at *
        go_wp2_with fail
        refine (numb_any x _).mono ?_
        rintro e ya ⟨rfl, b5⟩
        have yA := hid ((I.out.later b5).later (below_box ya (.cells #[.int .i64 2, .int .i64 0, .string ⟨#[]⟩, .int .i64 x] 51)))
        clear b5 d0
        go_wp2_with (at_builtin; refine wpList_append_lies _ rfl _ _ 34 rfl B 51 i0 _ 4 40 Tryz.underlying34 hi hz0 hz1 hz2 rfl (by decide) _ (l.length + 4 + k) _ rfl (own_len yA.out.own hlenE) ⟨ya.heap.size, 0, none⟩ 1 1 [.int .i64 2, .int .i64 0, .string ⟨#[]⟩, .int .i64 x] rfl rfl (World.news_of_block (cs := #[.int .i64 2, .int .i64 0, .string ⟨#[]⟩, .int .i64 x]) (t := 51) (fr := (0, 0)) (heap_alloc_new ya _)) (by simp [Value.oneCell']) (by decide) (room_max (nk1 _ hk) hroom) (room_le (nk1 _ hk) hroom) yA.out.size (ya.heap.size + 1) (by simp) ?_; intro g2 cap2 y2 hown hgrow hat hglt)
        have qP := hid (yA.out.grown (ts := [numT x]) (by rw [List.length_append, hlenE]; rfl) rfl hown hgrow (by simp) hat)
        clear hown hgrow hat hglt
        go_wp2_with fail
        go_roundg (il.length - (k + 1))
        case measure => omega
        case rel => exact ⟨k + 1, by omega, by omega, by go_num, by rw [HT.out, ← List.append_assoc]; exact qP.out⟩
      · have hk' : k = il.length := by omega
        subst hk'
        rw [List.take_length] at I
        have hlenE : ((l ++ [markT 91, wordT ⟨#[114, 101, 97, 100]⟩, wordT s]) ++ [markT 40] ++ il.map numT).length = l.length + 4 + il.length := by simp; omega
        go_wp2_with fail
        refine (mark_any ⟨#[41]⟩ _).mono ?_
        rintro e xa ⟨rfl, b5⟩
        have xA := hid ((I.out.later b5).later (below_box xa (.cells #[.int .i64 3, .int .i64 0, .string ⟨#[41]⟩, .int .i64 0] 51)))
        clear b5
        go_wp2_with (at_builtin; refine wpList_append_lies _ rfl _ _ 34 rfl B 51 i0 _ 4 40 Tryz.underlying34 hi hz0 hz1 hz2 rfl (by decide) _ (l.length + 4 + il.length) _ rfl (own_len xA.out.own hlenE) ⟨xa.heap.size, 0, none⟩ 1 1 [.int .i64 3, .int .i64 0, .string ⟨#[41]⟩, .int .i64 0] rfl rfl (World.news_of_block (cs := #[.int .i64 3, .int .i64 0, .string ⟨#[41]⟩, .int .i64 0]) (t := 51) (fr := (0, 0)) (heap_alloc_new xa _)) (by simp [Value.oneCell']) (by decide) (room_max (nk1 _ (Nat.le_refl _)) hroom) (room_le (nk1 _ (Nat.le_refl _)) hroom) xA.out.size (xa.heap.size + 1) (by simp) ?_; intro gx capx x hown hgrow hat hglt)
        have xP := hid (xA.out.grown (ts := [markT 41]) (by rw [List.length_append, hlenE]; rfl) rfl hown hgrow (by simp) hat)
        clear hown hgrow hat hglt
        have hlenF : ((l ++ [markT 91, wordT ⟨#[114, 101, 97, 100]⟩, wordT s]) ++ [markT 40] ++ il.map numT ++ [markT 41]).length = l.length + 4 + il.length + 1 := by simp; omega
        go_wp2_with fail
        refine (mark_any ⟨#[93]⟩ _).mono ?_
        rintro e za ⟨rfl, b5⟩
        have zA := hid ((xP.out.later b5).later (below_box za (.cells #[.int .i64 3, .int .i64 0, .string ⟨#[93]⟩, .int .i64 0] 51)))
        clear b5
        go_wp2_with (at_builtin; refine wpList_append_lies _ rfl _ _ 34 rfl B 51 i0 _ 4 40 Tryz.underlying34 hi hz0 hz1 hz2 rfl (by decide) _ (l.length + 4 + il.length + 1) _ rfl (own_len zA.out.own hlenF) ⟨za.heap.size, 0, none⟩ 1 1 [.int .i64 3, .int .i64 0, .string ⟨#[93]⟩, .int .i64 0] rfl rfl (World.news_of_block (cs := #[.int .i64 3, .int .i64 0, .string ⟨#[93]⟩, .int .i64 0]) (t := 51) (fr := (0, 0)) (heap_alloc_new za _)) (by simp [Value.oneCell']) (by decide) (room_max (nk2 _ _) hroom) (room_le (nk2 _ _) hroom) zA.out.size (za.heap.size + 1) (by simp) ?_; intro gz capz z hown hgrow hat hglt)
        have zP := hid (zA.out.grown (ts := [markT 93]) (by rw [List.length_append, hlenF]; rfl) rfl hown hgrow (by simp) hat)
        clear hown hgrow hat hglt
        go_wp2_with fail
        go_ret
        refine ⟨_, rfl, ?_, zP.out.below, zP.out.keep, zP.out.blk⟩
        have hz : l ++ opT (2, s, vl, il, true, nl) = ((l ++ [markT 91, wordT ⟨#[114, 101, 97, 100]⟩, wordT s]) ++ [markT 40] ++ il.map numT ++ [markT 41]) ++ [markT 93] := by simp [opT, midT, opWord, MOp.kind, MOp.key, MOp.value, MOp.list, MOp.has, MOp.nl]
        rw [hz]
        have hzo := zP.out.own
        simpa using hzo
end Go.Proofs.YtfgbjghfkdmcjaaGreatDoor
namespace Go.Proofs.YtfgbjghfkdmcjaaGreatDoor
set_option linter.unusedVariables false
set_option linter.unusedSimpArgs false
open Go.RowKit

set_option maxHeartbeats 8000000 in
set_option maxRecDepth 100000 in
theorem appendOp_3 (B : Nat) (s : ByteArray) (vl : Int) (il : List Int) (hs nl : Bool) (lv : Value) (v : Value) (l : List MTok) (w : World) (hB : B ≤ w.heap.size) (own : w.ownsRow B 51 4 v l.length (flat l)) (hroom : (l.length + il.length + 10) * 40 ≤ 140737488355328) (hl : IntsIn (fun b => b < B) w lv il) :
    Calls Tryz.prog 26 #[v, .agg #[.int .i64 3, .string s, .int .i64 vl, lv, .bool hs, .bool nl]] w fun e w' => ∃ v', e = .returned v' ∧ w'.ownsRow B 51 4 v' (l ++ opT (3, s, vl, il, hs, nl)).length (flat (l ++ opT (3, s, vl, il, hs, nl))) ∧ Below B w w' ∧ (∀ k, k < w.heap.size → some k ≠ v.ownBlock → w'.heap[k]? = w.heap[k]?) ∧ ∀ g, v'.ownBlock = some g → v.ownBlock = some g ∨ w.heap.size ≤ g := by
  obtain ⟨i0, hi, hz0, hz1, hz2⟩ := info_parts Tryz.infoTok
  obtain ⟨a1, cc1, rfl, hlb, hlc⟩ := id hl
  have HLC := hid hlc
  have hbw : Below B w (w.alloc (.cells #[.int .i64 3, .string s, .int .i64 vl, .slice a1 il.length cc1, .bool hs, .bool nl] 70)) := (Below.refl _ _).alloc hB _
  have hap : AP B w v w.heap.size [.int .i64 3, .string s, .int .i64 vl, .slice a1 il.length cc1, .bool hs, .bool nl] (w.alloc (.cells #[.int .i64 3, .string s, .int .i64 vl, .slice a1 il.length cc1, .bool hs, .bool nl] 70)) v l :=
    ⟨owns_keep own (fun g hg => Lib.alloc_old w _ g (own.lt g hg).2), hbw, hB, fun i u hi => (new_cells w _ 70 i).trans (by simpa using hi), by simp, fun e => by have := (own.lt _ e).2; omega, fun k hk _ => Lib.alloc_old w _ k hk, fun g hg => .inl hg⟩
  have P0 := hid hap
  clear hap hbw hl hlc own hB
  go_enter Tryz.func26, Tryz.ntmps26
  go_wp2_with fail
  generalize w.alloc (.cells #[.int .i64 3, .string s, .int .i64 vl, .slice a1 il.length cc1, .bool hs, .bool nl] 70) = w5 at P0 ⊢
  have x0 : w5.cell? ⟨w.heap.size, 0, none⟩ = _ := P0.out.box 0 _ rfl
  have x1 : w5.cell? ⟨w.heap.size, 1, none⟩ = _ := P0.out.box 1 _ rfl
  have IX := fun W => ix3 W ⟨#[]⟩ ⟨#[97, 112, 112, 101, 110, 100]⟩ ⟨#[114, 101, 97, 100]⟩ ⟨#[119, 114, 105, 116, 101]⟩ ⟨#[103, 101, 116]⟩
  go_region_held3 (fun w' => w'.cell? ⟨w.heap.size, 0, none⟩ = some (.int .i64 3) ∧ w'.cell? ⟨w.heap.size, 1, none⟩ = some (.string s))
    (first | exact ⟨x0, x1⟩ | exact ⟨y0 _, y1 _⟩ | exact ⟨P1.out.box 0 _ rfl, P1.out.box 1 _ rfl⟩ | go_keep)
    ((first
      | (refine step_append_lies _ (by rfl) _ _ 34 (by rfl) B 51 i0 _ 4 40 Tryz.underlying34 hi hz0 hz1 hz2 rfl (by decide) v l.length (flat l) (by rfl) (P0.out.later (below_box w5 _)).own ⟨w5.heap.size, 0, none⟩ 3 3 [.int .i64 3, .int .i64 0, .string ⟨#[91]⟩, .int .i64 0, .int .i64 1, .int .i64 0, .string ⟨#[119, 114, 105, 116, 101]⟩, .int .i64 0, .int .i64 1, .int .i64 0, .string s, .int .i64 0] (by rfl) (by rfl) (World.news_of_block (cs := #[.int .i64 3, .int .i64 0, .string ⟨#[91]⟩, .int .i64 0, .int .i64 1, .int .i64 0, .string ⟨#[119, 114, 105, 116, 101]⟩, .int .i64 0, .int .i64 1, .int .i64 0, .string s, .int .i64 0]) (t := 51) (fr := (0, 0)) (heap_alloc_new w5 _)) (by simp [Value.oneCell']) (by decide) (room_max (n3 _ _) hroom) (room_le (n3 _ _) hroom) (P0.out.later (below_box w5 _)).size (w5.heap.size + 1) (by simp) ?_
         intro g cap w6 hown hgrow hat hglt
         have P1 := hid ((P0.out.later (below_box w5 (.cells #[.int .i64 3, .int .i64 0, .string ⟨#[91]⟩, .int .i64 0, .int .i64 1, .int .i64 0, .string ⟨#[119, 114, 105, 116, 101]⟩, .int .i64 0, .int .i64 1, .int .i64 0, .string s, .int .i64 0] 51))).grown (ts := [markT 91, wordT ⟨#[119, 114, 105, 116, 101]⟩, wordT s]) (by simp) rfl hown hgrow (by simp) hat)
         clear hown hgrow hat hglt)
      | (go_at_call 47
         refine (opWords_any _).mono ?_
         rintro e w5 ⟨rfl, b5⟩
         have P0 := hid (P0.out.later (Below.trans (by repeat (first | exact Below.refl _ _ | apply Below.drew)) b5))
         have x0 : w5.cell? ⟨w.heap.size, 0, none⟩ = _ := P0.out.box 0 _ rfl
         have x1 : w5.cell? ⟨w.heap.size, 1, none⟩ = _ := P0.out.box 1 _ rfl
         have y0 : ∀ o, (w5.alloc o).cell? ⟨w.heap.size, 0, none⟩ = _ := fun o => Lib.cell?_alloc_some _ x0
         have y1 : ∀ o, (w5.alloc o).cell? ⟨w.heap.size, 1, none⟩ = _ := fun o => Lib.cell?_alloc_some _ x1
         clear b5)
      | (go_at_call 23
         refine (word_any _ _).mono ?_
         rintro e w5 ⟨rfl, b5⟩
         have P0 := hid (P0.out.later (Below.trans (by repeat (first | exact Below.refl _ _ | apply Below.drew)) b5))
         have x0 : w5.cell? ⟨w.heap.size, 0, none⟩ = _ := P0.out.box 0 _ rfl
         have x1 : w5.cell? ⟨w.heap.size, 1, none⟩ = _ := P0.out.box 1 _ rfl
         have y0 : ∀ o, (w5.alloc o).cell? ⟨w.heap.size, 0, none⟩ = _ := fun o => Lib.cell?_alloc_some _ x0
         have y1 : ∀ o, (w5.alloc o).cell? ⟨w.heap.size, 1, none⟩ = _ := fun o => Lib.cell?_alloc_some _ x1
         clear b5)
      | (go_at_call 46
         refine (mark_any ⟨#[91]⟩ _).mono ?_
         rintro e w5 ⟨rfl, b5⟩
         have P0 := hid (P0.out.later (Below.trans (by repeat (first | exact Below.refl _ _ | apply Below.drew)) b5))
         have x0 : w5.cell? ⟨w.heap.size, 0, none⟩ = _ := P0.out.box 0 _ rfl
         have x1 : w5.cell? ⟨w.heap.size, 1, none⟩ = _ := P0.out.box 1 _ rfl
         have y0 : ∀ o, (w5.alloc o).cell? ⟨w.heap.size, 0, none⟩ = _ := fun o => Lib.cell?_alloc_some _ x0
         have y1 : ∀ o, (w5.alloc o).cell? ⟨w.heap.size, 1, none⟩ = _ := fun o => Lib.cell?_alloc_some _ x1
         clear b5)))
  clear x0 x1 y0 y1
  have c0 : w6.cell? ⟨w.heap.size, 0, none⟩ = _ := P1.out.box 0 _ rfl
  have c1 : w6.cell? ⟨w.heap.size, 1, none⟩ = _ := P1.out.box 1 _ rfl
  have c2 : w6.cell? ⟨w.heap.size, 2, none⟩ = _ := P1.out.box 2 _ rfl
  have c3 : w6.cell? ⟨w.heap.size, 3, none⟩ = _ := P1.out.box 3 _ rfl
  have c4 : w6.cell? ⟨w.heap.size, 4, none⟩ = _ := P1.out.box 4 _ rfl
  have c5 : w6.cell? ⟨w.heap.size, 5, none⟩ = _ := P1.out.box 5 _ rfl
  go_wp2_with fail
  refine (numb_any vl _).mono ?_
  rintro e ya ⟨rfl, b5⟩
  have yA := hid ((P1.out.later b5).later (below_box ya (.cells #[.int .i64 2, .int .i64 0, .string ⟨#[]⟩, .int .i64 vl] 51)))
  clear b5
  go_wp2_with (at_builtin; refine wpList_append_lies _ rfl _ _ 34 rfl B 51 i0 _ 4 40 Tryz.underlying34 hi hz0 hz1 hz2 rfl (by decide) _ (l.length + 3) _ rfl (own_len yA.out.own (by simp)) ⟨ya.heap.size, 0, none⟩ 1 1 [.int .i64 2, .int .i64 0, .string ⟨#[]⟩, .int .i64 vl] rfl rfl (World.news_of_block (cs := #[.int .i64 2, .int .i64 0, .string ⟨#[]⟩, .int .i64 vl]) (t := 51) (fr := (0, 0)) (heap_alloc_new ya _)) (by simp [Value.oneCell']) (by decide) (room_max (n31 _ _) hroom) (room_le (n31 _ _) hroom) yA.out.size (ya.heap.size + 1) (by simp) ?_; intro gy capy y hown hgrow hat hglt)
  have yP := hid (yA.out.grown (ts := [numT vl]) (by simp) rfl hown hgrow (by simp) hat)
  clear hown hgrow hat hglt
  go_wp2_with fail
  refine (mark_any ⟨#[93]⟩ _).mono ?_
  rintro e za ⟨rfl, b5⟩
  have zA := hid ((yP.out.later b5).later (below_box za (.cells #[.int .i64 3, .int .i64 0, .string ⟨#[93]⟩, .int .i64 0] 51)))
  clear b5
  go_wp2_with (at_builtin; refine wpList_append_lies _ rfl _ _ 34 rfl B 51 i0 _ 4 40 Tryz.underlying34 hi hz0 hz1 hz2 rfl (by decide) _ (l.length + 3 + 1) _ rfl (own_len zA.out.own (by simp)) ⟨za.heap.size, 0, none⟩ 1 1 [.int .i64 3, .int .i64 0, .string ⟨#[93]⟩, .int .i64 0] rfl rfl (World.news_of_block (cs := #[.int .i64 3, .int .i64 0, .string ⟨#[93]⟩, .int .i64 0]) (t := 51) (fr := (0, 0)) (heap_alloc_new za _)) (by simp [Value.oneCell']) (by decide) (room_max (n311 _ _) hroom) (room_le (n311 _ _) hroom) zA.out.size (za.heap.size + 1) (by simp) ?_; intro gz capz z hown hgrow hat hglt)
  have zP := hid (zA.out.grown (ts := [markT 93]) (by simp) rfl hown hgrow (by simp) hat)
  clear hown hgrow hat hglt
  go_wp2_with fail
  go_ret
  refine ⟨_, rfl, ?_, zP.out.below, zP.out.keep, zP.out.blk⟩
  have hz : l ++ opT (3, s, vl, il, hs, nl) = ((l ++ [markT 91, wordT ⟨#[119, 114, 105, 116, 101]⟩, wordT s]) ++ [numT vl]) ++ [markT 93] := by simp [opT, midT, opWord, MOp.kind, MOp.key, MOp.value, MOp.list, MOp.has, MOp.nl]
  rw [hz]
  have hzo := zP.out.own
  simpa using hzo

end Go.Proofs.YtfgbjghfkdmcjaaGreatDoor
namespace Go.Proofs.YtfgbjghfkdmcjaaGreatDoor
set_option linter.unusedVariables false
set_option linter.unusedSimpArgs false
open Go.RowKit

set_option maxHeartbeats 8000000 in
set_option maxRecDepth 100000 in
theorem appendOp_4 (B : Nat) (s : ByteArray) (vl : Int) (il : List Int) (hs nl : Bool) (lv : Value) (v : Value) (l : List MTok) (w : World) (hB : B ≤ w.heap.size) (own : w.ownsRow B 51 4 v l.length (flat l)) (hroom : (l.length + il.length + 10) * 40 ≤ 140737488355328) (hl : IntsIn (fun b => b < B) w lv il) :
    Calls Tryz.prog 26 #[v, .agg #[.int .i64 4, .string s, .int .i64 vl, lv, .bool hs, .bool nl]] w fun e w' => ∃ v', e = .returned v' ∧ w'.ownsRow B 51 4 v' (l ++ opT (4, s, vl, il, hs, nl)).length (flat (l ++ opT (4, s, vl, il, hs, nl))) ∧ Below B w w' ∧ (∀ k, k < w.heap.size → some k ≠ v.ownBlock → w'.heap[k]? = w.heap[k]?) ∧ ∀ g, v'.ownBlock = some g → v.ownBlock = some g ∨ w.heap.size ≤ g := by
  obtain ⟨i0, hi, hz0, hz1, hz2⟩ := info_parts Tryz.infoTok
  obtain ⟨a1, cc1, rfl, hlb, hlc⟩ := id hl
  have HLC := hid hlc
  have hbw : Below B w (w.alloc (.cells #[.int .i64 4, .string s, .int .i64 vl, .slice a1 il.length cc1, .bool hs, .bool nl] 70)) := (Below.refl _ _).alloc hB _
  have hap : AP B w v w.heap.size [.int .i64 4, .string s, .int .i64 vl, .slice a1 il.length cc1, .bool hs, .bool nl] (w.alloc (.cells #[.int .i64 4, .string s, .int .i64 vl, .slice a1 il.length cc1, .bool hs, .bool nl] 70)) v l :=
    ⟨owns_keep own (fun g hg => Lib.alloc_old w _ g (own.lt g hg).2), hbw, hB, fun i u hi => (new_cells w _ 70 i).trans (by simpa using hi), by simp, fun e => by have := (own.lt _ e).2; omega, fun k hk _ => Lib.alloc_old w _ k hk, fun g hg => .inl hg⟩
  have P0 := hid hap
  clear hap hbw hl hlc own hB
  go_enter Tryz.func26, Tryz.ntmps26
  go_wp2_with fail
  generalize w.alloc (.cells #[.int .i64 4, .string s, .int .i64 vl, .slice a1 il.length cc1, .bool hs, .bool nl] 70) = w5 at P0 ⊢
  have x0 : w5.cell? ⟨w.heap.size, 0, none⟩ = _ := P0.out.box 0 _ rfl
  have x1 : w5.cell? ⟨w.heap.size, 1, none⟩ = _ := P0.out.box 1 _ rfl
  have IX := fun W => ix4 W ⟨#[]⟩ ⟨#[97, 112, 112, 101, 110, 100]⟩ ⟨#[114, 101, 97, 100]⟩ ⟨#[119, 114, 105, 116, 101]⟩ ⟨#[103, 101, 116]⟩
  go_region_held3 (fun w' => w'.cell? ⟨w.heap.size, 0, none⟩ = some (.int .i64 4) ∧ w'.cell? ⟨w.heap.size, 1, none⟩ = some (.string s))
    (first | exact ⟨x0, x1⟩ | exact ⟨y0 _, y1 _⟩ | exact ⟨P1.out.box 0 _ rfl, P1.out.box 1 _ rfl⟩ | go_keep)
    ((first
      | (refine step_append_lies _ (by rfl) _ _ 34 (by rfl) B 51 i0 _ 4 40 Tryz.underlying34 hi hz0 hz1 hz2 rfl (by decide) v l.length (flat l) (by rfl) (P0.out.later (below_box w5 _)).own ⟨w5.heap.size, 0, none⟩ 3 3 [.int .i64 3, .int .i64 0, .string ⟨#[91]⟩, .int .i64 0, .int .i64 1, .int .i64 0, .string ⟨#[103, 101, 116]⟩, .int .i64 0, .int .i64 1, .int .i64 0, .string s, .int .i64 0] (by rfl) (by rfl) (World.news_of_block (cs := #[.int .i64 3, .int .i64 0, .string ⟨#[91]⟩, .int .i64 0, .int .i64 1, .int .i64 0, .string ⟨#[103, 101, 116]⟩, .int .i64 0, .int .i64 1, .int .i64 0, .string s, .int .i64 0]) (t := 51) (fr := (0, 0)) (heap_alloc_new w5 _)) (by simp [Value.oneCell']) (by decide) (room_max (n3 _ _) hroom) (room_le (n3 _ _) hroom) (P0.out.later (below_box w5 _)).size (w5.heap.size + 1) (by simp) ?_
         intro g cap w6 hown hgrow hat hglt
         have P1 := hid ((P0.out.later (below_box w5 (.cells #[.int .i64 3, .int .i64 0, .string ⟨#[91]⟩, .int .i64 0, .int .i64 1, .int .i64 0, .string ⟨#[103, 101, 116]⟩, .int .i64 0, .int .i64 1, .int .i64 0, .string s, .int .i64 0] 51))).grown (ts := [markT 91, wordT ⟨#[103, 101, 116]⟩, wordT s]) (by simp) rfl hown hgrow (by simp) hat)
         clear hown hgrow hat hglt)
      | (go_at_call 47
         refine (opWords_any _).mono ?_
         rintro e w5 ⟨rfl, b5⟩
         have P0 := hid (P0.out.later (Below.trans (by repeat (first | exact Below.refl _ _ | apply Below.drew)) b5))
         have x0 : w5.cell? ⟨w.heap.size, 0, none⟩ = _ := P0.out.box 0 _ rfl
         have x1 : w5.cell? ⟨w.heap.size, 1, none⟩ = _ := P0.out.box 1 _ rfl
         have y0 : ∀ o, (w5.alloc o).cell? ⟨w.heap.size, 0, none⟩ = _ := fun o => Lib.cell?_alloc_some _ x0
         have y1 : ∀ o, (w5.alloc o).cell? ⟨w.heap.size, 1, none⟩ = _ := fun o => Lib.cell?_alloc_some _ x1
         clear b5)
      | (go_at_call 23
         refine (word_any _ _).mono ?_
         rintro e w5 ⟨rfl, b5⟩
         have P0 := hid (P0.out.later (Below.trans (by repeat (first | exact Below.refl _ _ | apply Below.drew)) b5))
         have x0 : w5.cell? ⟨w.heap.size, 0, none⟩ = _ := P0.out.box 0 _ rfl
         have x1 : w5.cell? ⟨w.heap.size, 1, none⟩ = _ := P0.out.box 1 _ rfl
         have y0 : ∀ o, (w5.alloc o).cell? ⟨w.heap.size, 0, none⟩ = _ := fun o => Lib.cell?_alloc_some _ x0
         have y1 : ∀ o, (w5.alloc o).cell? ⟨w.heap.size, 1, none⟩ = _ := fun o => Lib.cell?_alloc_some _ x1
         clear b5)
      | (go_at_call 46
         refine (mark_any ⟨#[91]⟩ _).mono ?_
         rintro e w5 ⟨rfl, b5⟩
         have P0 := hid (P0.out.later (Below.trans (by repeat (first | exact Below.refl _ _ | apply Below.drew)) b5))
         have x0 : w5.cell? ⟨w.heap.size, 0, none⟩ = _ := P0.out.box 0 _ rfl
         have x1 : w5.cell? ⟨w.heap.size, 1, none⟩ = _ := P0.out.box 1 _ rfl
         have y0 : ∀ o, (w5.alloc o).cell? ⟨w.heap.size, 0, none⟩ = _ := fun o => Lib.cell?_alloc_some _ x0
         have y1 : ∀ o, (w5.alloc o).cell? ⟨w.heap.size, 1, none⟩ = _ := fun o => Lib.cell?_alloc_some _ x1
         clear b5)))
  clear x0 x1 y0 y1
  have c0 : w6.cell? ⟨w.heap.size, 0, none⟩ = _ := P1.out.box 0 _ rfl
  have c1 : w6.cell? ⟨w.heap.size, 1, none⟩ = _ := P1.out.box 1 _ rfl
  have c2 : w6.cell? ⟨w.heap.size, 2, none⟩ = _ := P1.out.box 2 _ rfl
  have c3 : w6.cell? ⟨w.heap.size, 3, none⟩ = _ := P1.out.box 3 _ rfl
  have c4 : w6.cell? ⟨w.heap.size, 4, none⟩ = _ := P1.out.box 4 _ rfl
  have c5 : w6.cell? ⟨w.heap.size, 5, none⟩ = _ := P1.out.box 5 _ rfl
  cases hs with
  | false =>
    go_wp2_with fail
    refine (mark_any ⟨#[93]⟩ _).mono ?_
    rintro e za ⟨rfl, b5⟩
    have zA := hid ((P1.out.later b5).later (below_box za (.cells #[.int .i64 3, .int .i64 0, .string ⟨#[93]⟩, .int .i64 0] 51)))
    clear b5
    go_wp2_with (at_builtin; refine wpList_append_lies _ rfl _ _ 34 rfl B 51 i0 _ 4 40 Tryz.underlying34 hi hz0 hz1 hz2 rfl (by decide) _ (l.length + 3) _ rfl (own_len zA.out.own (by simp)) ⟨za.heap.size, 0, none⟩ 1 1 [.int .i64 3, .int .i64 0, .string ⟨#[93]⟩, .int .i64 0] rfl rfl (World.news_of_block (cs := #[.int .i64 3, .int .i64 0, .string ⟨#[93]⟩, .int .i64 0]) (t := 51) (fr := (0, 0)) (heap_alloc_new za _)) (by simp [Value.oneCell']) (by decide) (room_max (n31 _ _) hroom) (room_le (n31 _ _) hroom) zA.out.size (za.heap.size + 1) (by simp) ?_; intro gz capz z hown hgrow hat hglt)
    have zP := hid (zA.out.grown (ts := [markT 93]) (by simp) rfl hown hgrow (by simp) hat)
    clear hown hgrow hat hglt
    go_wp2_with fail
    go_ret
    refine ⟨_, rfl, ?_, zP.out.below, zP.out.keep, zP.out.blk⟩
    have hz : l ++ opT (4, s, vl, il, false, nl) = (l ++ [markT 91, wordT ⟨#[103, 101, 116]⟩, wordT s]) ++ [markT 93] := by simp [opT, midT, opWord, MOp.kind, MOp.key, MOp.value, MOp.list, MOp.has, MOp.nl]
    rw [hz]
    have hzo := zP.out.own
    simpa using hzo
  | true =>
  cases nl with
  | true =>
    go_wp2_with fail
    refine (word_any ⟨#[110, 105, 108]⟩ _).mono ?_
    rintro e ya ⟨rfl, b5⟩
    have yA := hid ((P1.out.later b5).later (below_box ya (.cells #[.int .i64 1, .int .i64 0, .string ⟨#[110, 105, 108]⟩, .int .i64 0] 51)))
    clear b5
    go_wp2_with (at_builtin; refine wpList_append_lies _ rfl _ _ 34 rfl B 51 i0 _ 4 40 Tryz.underlying34 hi hz0 hz1 hz2 rfl (by decide) _ (l.length + 3) _ rfl (own_len yA.out.own (by simp)) ⟨ya.heap.size, 0, none⟩ 1 1 [.int .i64 1, .int .i64 0, .string ⟨#[110, 105, 108]⟩, .int .i64 0] rfl rfl (World.news_of_block (cs := #[.int .i64 1, .int .i64 0, .string ⟨#[110, 105, 108]⟩, .int .i64 0]) (t := 51) (fr := (0, 0)) (heap_alloc_new ya _)) (by simp [Value.oneCell']) (by decide) (room_max (n31 _ _) hroom) (room_le (n31 _ _) hroom) yA.out.size (ya.heap.size + 1) (by simp) ?_; intro gy capy y hown hgrow hat hglt)
    have yP := hid (yA.out.grown (ts := [wordT ⟨#[110, 105, 108]⟩]) (by simp) rfl hown hgrow (by simp) hat)
    clear hown hgrow hat hglt
    go_wp2_with fail
    refine (mark_any ⟨#[93]⟩ _).mono ?_
    rintro e za ⟨rfl, b5⟩
    have zA := hid ((yP.out.later b5).later (below_box za (.cells #[.int .i64 3, .int .i64 0, .string ⟨#[93]⟩, .int .i64 0] 51)))
    clear b5
    go_wp2_with (at_builtin; refine wpList_append_lies _ rfl _ _ 34 rfl B 51 i0 _ 4 40 Tryz.underlying34 hi hz0 hz1 hz2 rfl (by decide) _ (l.length + 3 + 1) _ rfl (own_len zA.out.own (by simp)) ⟨za.heap.size, 0, none⟩ 1 1 [.int .i64 3, .int .i64 0, .string ⟨#[93]⟩, .int .i64 0] rfl rfl (World.news_of_block (cs := #[.int .i64 3, .int .i64 0, .string ⟨#[93]⟩, .int .i64 0]) (t := 51) (fr := (0, 0)) (heap_alloc_new za _)) (by simp [Value.oneCell']) (by decide) (room_max (n311 _ _) hroom) (room_le (n311 _ _) hroom) zA.out.size (za.heap.size + 1) (by simp) ?_; intro gz capz z hown hgrow hat hglt)
    have zP := hid (zA.out.grown (ts := [markT 93]) (by simp) rfl hown hgrow (by simp) hat)
    clear hown hgrow hat hglt
    go_wp2_with fail
    go_ret
    refine ⟨_, rfl, ?_, zP.out.below, zP.out.keep, zP.out.blk⟩
    have hz : l ++ opT (4, s, vl, il, true, true) = ((l ++ [markT 91, wordT ⟨#[103, 101, 116]⟩, wordT s]) ++ [wordT ⟨#[110, 105, 108]⟩]) ++ [markT 93] := by simp [opT, midT, opWord, MOp.kind, MOp.key, MOp.value, MOp.list, MOp.has, MOp.nl]
    rw [hz]
    have hzo := zP.out.own
    simpa using hzo
  | false =>
    go_wp2_with fail
    refine (numb_any vl _).mono ?_
    rintro e ya ⟨rfl, b5⟩
    have yA := hid ((P1.out.later b5).later (below_box ya (.cells #[.int .i64 2, .int .i64 0, .string ⟨#[]⟩, .int .i64 vl] 51)))
    clear b5
    go_wp2_with (at_builtin; refine wpList_append_lies _ rfl _ _ 34 rfl B 51 i0 _ 4 40 Tryz.underlying34 hi hz0 hz1 hz2 rfl (by decide) _ (l.length + 3) _ rfl (own_len yA.out.own (by simp)) ⟨ya.heap.size, 0, none⟩ 1 1 [.int .i64 2, .int .i64 0, .string ⟨#[]⟩, .int .i64 vl] rfl rfl (World.news_of_block (cs := #[.int .i64 2, .int .i64 0, .string ⟨#[]⟩, .int .i64 vl]) (t := 51) (fr := (0, 0)) (heap_alloc_new ya _)) (by simp [Value.oneCell']) (by decide) (room_max (n31 _ _) hroom) (room_le (n31 _ _) hroom) yA.out.size (ya.heap.size + 1) (by simp) ?_; intro gy capy y hown hgrow hat hglt)
    have yP := hid (yA.out.grown (ts := [numT vl]) (by simp) rfl hown hgrow (by simp) hat)
    clear hown hgrow hat hglt
    go_wp2_with fail
    refine (mark_any ⟨#[93]⟩ _).mono ?_
    rintro e za ⟨rfl, b5⟩
    have zA := hid ((yP.out.later b5).later (below_box za (.cells #[.int .i64 3, .int .i64 0, .string ⟨#[93]⟩, .int .i64 0] 51)))
    clear b5
    go_wp2_with (at_builtin; refine wpList_append_lies _ rfl _ _ 34 rfl B 51 i0 _ 4 40 Tryz.underlying34 hi hz0 hz1 hz2 rfl (by decide) _ (l.length + 3 + 1) _ rfl (own_len zA.out.own (by simp)) ⟨za.heap.size, 0, none⟩ 1 1 [.int .i64 3, .int .i64 0, .string ⟨#[93]⟩, .int .i64 0] rfl rfl (World.news_of_block (cs := #[.int .i64 3, .int .i64 0, .string ⟨#[93]⟩, .int .i64 0]) (t := 51) (fr := (0, 0)) (heap_alloc_new za _)) (by simp [Value.oneCell']) (by decide) (room_max (n311 _ _) hroom) (room_le (n311 _ _) hroom) zA.out.size (za.heap.size + 1) (by simp) ?_; intro gz capz z hown hgrow hat hglt)
    have zP := hid (zA.out.grown (ts := [markT 93]) (by simp) rfl hown hgrow (by simp) hat)
    clear hown hgrow hat hglt
    go_wp2_with fail
    go_ret
    refine ⟨_, rfl, ?_, zP.out.below, zP.out.keep, zP.out.blk⟩
    have hz : l ++ opT (4, s, vl, il, true, false) = ((l ++ [markT 91, wordT ⟨#[103, 101, 116]⟩, wordT s]) ++ [numT vl]) ++ [markT 93] := by simp [opT, midT, opWord, MOp.kind, MOp.key, MOp.value, MOp.list, MOp.has, MOp.nl]
    rw [hz]
    have hzo := zP.out.own
    simpa using hzo
end Go.Proofs.YtfgbjghfkdmcjaaGreatDoor
