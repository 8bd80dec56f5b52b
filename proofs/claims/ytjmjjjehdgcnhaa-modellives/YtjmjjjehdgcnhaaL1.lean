/-
  What ModelLives holds: two states beside the document's two, and the keys.
-/
import Derived.Test.YtjmjjjehdgcnhaaN2
import Derived.Test.YtjmjjjehdgcnhaaCl
import Derived.Test.YtjmjjjehdgcnhaaSm
import Derived.Test.YtjmjjjehdgcnhaaM8
namespace Go.Proofs.Ytjmjjjehdgcnhaa
set_option linter.unusedVariables false
set_option linter.unusedSimpArgs false
open Go.RowKit Go.Lib

theorem St.down {B B' : Nat} {w : World} {sb lb rb : Nat} {F : Nat → Prop} {n : Nat} {L : List MOp} (h : St B' w sb lb rb F n L) (hB : B ≤ B') : St B w sb lb rb F n L := by
  obtain ⟨S, hS⟩ := h.ls
  exact ⟨h.ob, h.ne, h.fs, h.fl, h.fr, fun b hb => ⟨by have := (h.flt b hb).1; omega, (h.flt b hb).2⟩, ⟨S, hS.map, hS.nil, fun s => own_mono (hS.own s) hB, hS.foot, hS.apart⟩, h.rs⟩
theorem Rst.down {B B' : Nat} {w : World} {xb : Nat} {v : Value} {L : List MOp} (h : Rst B' w xb v L) (hB : B ≤ B') : Rst B w xb v L := by
  obtain ⟨rd, q1, q2, q3⟩ := h.row
  exact ⟨h.ob, rd, own_mono q1 hB, q2, q3⟩

/-- A state and the document's, both behind L, in blocks of P. -/
structure Pr (B : Nat) (w : World) (sb lb rb : Nat) (F : Nat → Prop) (xb : Nat) (v : Value) (n : Nat) (L : List MOp) (P : Nat → Prop) : Prop where
  st : St B w sb lb rb F n L
  rs : Rst B w xb v L
  fx : ¬ F xb
  fv : ∀ g, v.ownBlock = some g → ¬ F g ∧ g ≠ xb
  pf : ∀ b, F b → P b
  px : P xb
  pv : ∀ g, v.ownBlock = some g → P g
  lt : ∀ b, P b → B ≤ b ∧ b < w.heap.size

section
variable {B : Nat} {w w' w1 w2 : World} {sb lb rb : Nat} {F : Nat → Prop} {xb : Nat} {v v' : Value} {n n' : Nat} {L L' : List MOp} {P : Nat → Prop}

theorem Pr.base (h : Pr B w sb lb rb F xb v n L P) : B ≤ w.heap.size := by have := h.lt xb h.px; omega
theorem Pr.keep (h : Pr B w sb lb rb F xb v n L P) {Q : Nat → Prop} (hg : Gro Q w w') (hQ : ∀ b, P b → ¬ Q b) : Pr B w' sb lb rb F xb v n L P :=
  ⟨h.st.keep hg (fun b hb => hQ b (h.pf b hb)), h.rs.keep (hg.block xb (h.lt xb h.px).2 (hQ xb h.px)) (fun g e => hg.block g (h.lt g (h.pv g e)).2 (hQ g (h.pv g e))), h.fx, h.fv, h.pf, h.px, h.pv, fun b hb => ⟨(h.lt b hb).1, by have := (h.lt b hb).2; have := hg.size; omega⟩⟩
theorem Pr.later (h : Pr B w sb lb rb F xb v n L P) (hb : Below w.heap.size w w') : Pr B w' sb lb rb F xb v n L P :=
  h.keep (Gro.of_below (P := fun _ => False) hb) (fun _ _ c => c)
theorem Pr.more (h : Pr B w sb lb rb F xb v n L P) (hn : n ≤ n') : Pr B w sb lb rb F xb v n' L P :=
  ⟨h.st.wider (fun _ x => x) h.st.flt hn, h.rs, h.fx, h.fv, h.pf, h.px, h.pv, h.lt⟩

/-- Behind an Apply of both. -/
theorem Pr.step (h : Pr B w sb lb rb F xb v n L P) (hs : St B w1 sb lb rb (wide F w w1) n' L') (hg : Gro F w w1) (hr : Rst B w2 xb v' L') (ho : ∀ g, v'.ownBlock = some g → v.ownBlock = some g ∨ w1.heap.size ≤ g) (hg2 : Gro (fun b => b = xb) w1 w2) :
    Pr B w2 sb lb rb (wide F w w1) xb v' n' L' (wide P w w2) ∧ Gro P w w2 := by
  have hx := h.lt xb h.px
  have z1 := hg.size
  have z2 := hg2.size
  have hfx : ¬ wide F w w1 xb := fun c => by
    rcases c with c | c
    · exact h.fx c
    · omega
  refine ⟨⟨hs.keep hg2 (fun b hb e => hfx (e ▸ hb)), hr, hfx, fun g e => ?_, fun b hb => ?_, .inl h.px, fun g e => ?_, fun b hb => ?_⟩, ⟨hg2.os.trans hg.os, hg2.tape.trans hg.tape, hg2.output.trans hg.output, by omega, fun b hb hn => ?_⟩⟩
  · rcases ho g e with q | q
    · have q2 := h.fv g q
      have q3 := (h.lt g (h.pv g q)).2
      exact ⟨fun c => by
        rcases c with c | c
        · exact q2.1 c
        · omega, q2.2⟩
    · exact ⟨fun c => by
        rcases c with c | c
        · have := (h.lt g (h.pf g c)).2; omega
        · omega, by omega⟩
  · rcases hb with c | c
    · exact .inl (h.pf b c)
    · exact .inr ⟨c.1, by omega⟩
  · rcases ho g e with q | q
    · exact .inl (h.pv g q)
    · exact .inr ⟨by omega, (hr.olt e).2⟩
  · rcases hb with c | c
    · have := h.lt b c; omega
    · omega
  · exact (hg2.block b (by omega) (fun e => hn (by rw [show b = xb from e]; exact h.px))).trans (hg.block b hb (fun c => hn (h.pf b c)))

/-- Made anew. -/
theorem Pr.made {lo mid : Nat} (hs : St B w sb lb rb F n L) (hr : Rst B w xb v L) (hB : B ≤ lo) (hF : ∀ b, F b → lo ≤ b ∧ b < mid) (hlm : lo ≤ mid) (hx : mid ≤ xb) (hv : ∀ g, v.ownBlock = some g → mid ≤ g ∧ g ≠ xb) : Pr B w sb lb rb F xb v n L (fun b => lo ≤ b ∧ b < w.heap.size) :=
  ⟨hs, hr, fun c => by have := hF xb c; omega, fun g e => ⟨fun c => by have := hF g c; have := hv g e; omega, (hv g e).2⟩, fun b hb => ⟨(hF b hb).1, (hs.flt b hb).2⟩, ⟨by omega, hr.lt⟩, fun g e => ⟨by have := hv g e; omega, (hr.olt e).2⟩, fun b hb => ⟨by omega, hb.2⟩⟩
end

/-- The keys, in a row of their own. -/
structure Ks (B : Nat) (w : World) (kv : Value) (ks : List ByteArray) (P Q : Nat → Prop) : Prop where
  row : w.ownsRow B 9 1 kv ks.length (ks.map Value.string)
  ap : ∀ g, kv.ownBlock = some g → ¬ P g ∧ ¬ Q g

/-- Both states, the document's, and the keys. -/
def Lv (B : Nat) (w : World) (sb xb ob yb : Nat) (kv : Value) (n : Nat) (L M : List MOp) (ks : List ByteArray) : Prop :=
  ∃ lb rb F v lo ro G u P Q, Pr B w sb lb rb F xb v n L P ∧ Pr B w ob lo ro G yb u n M Q ∧ (∀ b, P b → ¬ Q b) ∧ Ks B w kv ks P Q

theorem Lv.later {B : Nat} {w w' : World} {sb xb ob yb : Nat} {kv : Value} {n : Nat} {L M : List MOp} {ks : List ByteArray} (h : Lv B w sb xb ob yb kv n L M ks) (hb : Below w.heap.size w w') : Lv B w' sb xb ob yb kv n L M ks := by
  obtain ⟨lb, rb, F, v, lo, ro, G, u, P, Q, h1, h2, h3, h4⟩ := h
  exact ⟨lb, rb, F, v, lo, ro, G, u, P, Q, h1.later hb, h2.later hb, h3, ⟨own_same h4.row (fun g e => hb.block g (own_block2 h4.row e).2), h4.ap⟩⟩

/-- The keys grew. -/
theorem Lv.keyed {B : Nat} {w w' : World} {sb xb ob yb : Nat} {kv kv' : Value} {n : Nat} {L M : List MOp} {ks ks' : List ByteArray} (h : Lv B w sb xb ob yb kv n L M ks) (hg : Gro (fun b => kv.ownBlock = some b) w w') (ho : w'.ownsRow B 9 1 kv' ks'.length (ks'.map Value.string)) (hk : ∀ g, kv'.ownBlock = some g → kv.ownBlock = some g ∨ w.heap.size ≤ g) : Lv B w' sb xb ob yb kv' n L M ks' := by
  obtain ⟨lb, rb, F, v, lo, ro, G, u, P, Q, h1, h2, h3, h4⟩ := h
  refine ⟨lb, rb, F, v, lo, ro, G, u, P, Q, h1.keep hg (fun b hb e => (h4.ap b e).1 hb), h2.keep hg (fun b hb e => (h4.ap b e).2 hb), h3, ⟨ho, fun g e => ?_⟩⟩
  rcases hk g e with q | q
  · exact h4.ap g q
  · exact ⟨fun c => by have := (h1.lt g c).2; omega, fun c => by have := (h2.lt g c).2; omega⟩

/-- A state that was copied is the elder one from now on. -/
theorem Lv.copied {B : Nat} {w w' : World} {sb xb ob yb : Nat} {kv : Value} {n : Nat} {L M : List MOp} {ks : List ByteArray} (h : Lv B w sb xb ob yb kv n L M ks) (hb : Below w.heap.size w w') {cb lb2 rb2 zb : Nat} {F : Nat → Prop} {v : Value} {mid : Nat} (hs : St w.heap.size w' cb lb2 rb2 F n L) (hr : Rst w.heap.size w' zb v L)
    (hF : ∀ b, F b → b < mid) (hm : w.heap.size ≤ mid) (hx : mid ≤ zb) (hv : ∀ g, v.ownBlock = some g → mid ≤ g ∧ g ≠ zb) : Lv B w' cb zb sb xb kv n L L ks := by
  obtain ⟨lb, rb, F1, v1, lo, ro, G, u, P, Q, h1, h2, h3, h4⟩ := h
  refine ⟨lb2, rb2, F, v, lb, rb, F1, v1, _, P, Pr.made (lo := w.heap.size) (mid := mid) (hs.down h1.base) (hr.down h1.base) h1.base (fun b hb => ⟨(hs.flt b hb).1, hF b hb⟩) hm hx hv, h1.later hb, fun b hb c => by have := (h1.lt b c).2; omega, ⟨own_same h4.row (fun g e => hb.block g (own_block2 h4.row e).2), fun g e => ⟨fun c => by have := (own_block2 h4.row e).2; omega, (h4.ap g e).1⟩⟩⟩

/-- How many operations the first k bring. -/
def tot (l : List (List MOp × Bool × Bool)) (k : Nat) : Nat := ((l.take k).map (fun x => x.1.length)).sum
theorem tot_next (l : List (List MOp × Bool × Bool)) (k : Nat) (h : k < l.length) : tot l (k + 1) = tot l k + (l.getD k default).1.length := by
  unfold tot
  rw [List.take_add_one, List.getElem?_eq_getElem h, List.map_append, List.sum_append, List.getD, List.getElem?_eq_getElem h]
  rfl
theorem tot_le (l : List (List MOp × Bool × Bool)) (k : Nat) (h : k ≤ l.length) : tot l k ≤ tot l l.length := by
  obtain ⟨d, hd⟩ : ∃ d, l.length = k + d := ⟨l.length - k, by omega⟩
  rw [hd]
  clear h
  have key : ∀ d, k + d ≤ l.length → tot l k ≤ tot l (k + d) := fun d => by
    induction d with
    | zero => intro _; exact Nat.le_refl _
    | succ d ih => intro h; have := ih (by omega); rw [← Nat.add_assoc, tot_next l (k + d) (by omega)]; omega
  exact key d (by omega)
/-- One call: its operations, blind or not, copied before or not. -/
def DoRow (S : Nat → Prop) (w : World) (cs : List Value) (x : List MOp × Bool × Bool) : Prop := ∃ ov, cs = [ov, .bool x.2.1, .bool x.2.2] ∧ OpsIn S w ov x.1
def DosIn (S : Nat → Prop) (w : World) (v : Value) (l : List (List MOp × Bool × Bool)) : Prop := RowsIn 3 32 (DoRow S w) S w v l

theorem ref_none (B : Nat) (w : World) : Rst B (w.alloc (.cells #[.slice none 0 0] 28)) w.heap.size (.slice none 0 0) [] :=
  ⟨by rw [alloc_at, if_pos rfl], [], ⟨rfl, .inl ⟨rfl, rfl⟩⟩, rfl, fun r hr => by simp at hr⟩
/-- Where the law begins. -/
theorem Lv.start {w w1 w2 : World} {sb lb rb cb lb2 rb2 : Nat} (key : ByteArray) (s1 : St w.heap.size w1 sb lb rb (fun b => w.heap.size ≤ b ∧ b < w1.heap.size) 0 []) (b1 : Below w.heap.size w w1)
    (s2 : St (w1.alloc (.cells #[.slice none 0 0] 28)).heap.size w2 cb lb2 rb2 (fun b => (w1.alloc (.cells #[.slice none 0 0] 28)).heap.size ≤ b ∧ b < w2.heap.size) 0 []) (b2 : Below (w1.alloc (.cells #[.slice none 0 0] 28)).heap.size (w1.alloc (.cells #[.slice none 0 0] 28)) w2) :
    Lv w.heap.size ((w2.alloc (.cells #[.slice none 0 0] 28)).alloc (.cells #[.string key] 9)) sb w1.heap.size cb w2.heap.size (.slice (some ⟨w2.heap.size + 1, 0, none⟩) 1 1) 0 [] [] [key] := by
  have hz1 := b1.size
  have hz2 := b2.size
  have ha1 := alloc_size w1 (.cells #[.slice none 0 0] 28)
  have ha2 := alloc_size w2 (.cells #[.slice none 0 0] 28)
  have p1 := Pr.made (B := w.heap.size) (lo := w.heap.size) (mid := w1.heap.size) (s1.later ((Below.refl _ w1).alloc (Nat.le_refl _) (.cells #[.slice none 0 0] 28))) (ref_none w.heap.size w1) (Nat.le_refl _) (fun b hb => hb) hz1 (Nat.le_refl _) (fun g e => by cases e)
  have p2 := Pr.made (B := w.heap.size) (lo := w1.heap.size + 1) (mid := w2.heap.size) ((s2.later ((Below.refl _ w2).alloc (Nat.le_refl _) (.cells #[.slice none 0 0] 28))).down (by omega)) (ref_none w.heap.size w2) (by omega) (fun b hb => by rw [← ha1]; exact hb) (by omega) (Nat.le_refl _) (fun g e => by cases e)
  have c2 := (Below.refl _ (w2.alloc (.cells #[.slice none 0 0] 28))).alloc (Nat.le_refl _) (.cells #[.string key] 9)
  have c1 : Below (w1.alloc (.cells #[.slice none 0 0] 28)).heap.size (w1.alloc (.cells #[.slice none 0 0] 28)) ((w2.alloc (.cells #[.slice none 0 0] 28)).alloc (.cells #[.string key] 9)) := b2.trans ((((Below.refl _ w2).alloc (Nat.le_refl _) (.cells #[.slice none 0 0] 28)).trans (c2.mono (by omega))).mono hz2)
  refine ⟨lb, rb, _, _, lb2, rb2, _, _, _, _, p1.later c1, p2.later c2, fun b hb c => ?_, ⟨⟨rfl, .inr ⟨w2.heap.size + 1, 1, #[.string key], rfl, by omega, by rw [alloc_at, if_pos ha2.symm], Nat.le_refl _, by unfold maxLen; omega, rfl, rfl⟩⟩, fun g e => ?_⟩⟩
  · have := hb.2
    have := c.1
    omega
  · have e' : w2.heap.size + 1 = g := by simpa [Value.ownBlock] using e
    exact ⟨fun c => by have := c.2; omega, fun c => by have := c.2; omega⟩

/-- What is known by number in round k. -/
structure Nm (l : List (List MOp × Bool × Bool)) (k n : Nat) (L M : List MOp) (ks : List ByteArray) : Prop where
  hn : n ≤ 2 * tot l k
  hL : L.length ≤ tot l k
  hM : M.length ≤ tot l k
  hks : ks.length = 1 + tot l k
  kL : ∀ o ∈ L, o.key.size ≤ 281474976710656
  kM : ∀ o ∈ M, o.key.size ≤ 281474976710656
  kk : ∀ x ∈ ks, x.size ≤ 281474976710656
theorem bool_same {b c : Bool} {p : Prop} (h : b = true ↔ p) (k : c = true ↔ p) : b = c := by
  cases b <;> cases c <;> simp_all

/-- The same, with a box and operations of one's own that lie beside the first state. -/
def Lw (B : Nat) (w : World) (sb xb ob yb : Nat) (kv : Value) (n : Nat) (L M : List MOp) (ks : List ByteArray) (bx : Nat) (gv : Value) (A : List MOp) : Prop :=
  ∃ lb rb F v lo ro G u P Q, Pr B w sb lb rb F xb v n L P ∧ Pr B w ob lo ro G yb u n M Q ∧ (∀ b, P b → ¬ Q b) ∧ Ks B w kv ks P Q ∧ ¬ P bx ∧ OpsIn (fun b => ¬ P b) w gv A

theorem Lw.plain {B : Nat} {w w' : World} {sb xb ob yb : Nat} {kv : Value} {n : Nat} {L M : List MOp} {ks : List ByteArray} {gv : Value} {A : List MOp} (h : Lv B w sb xb ob yb kv n L M ks) (hb : Below w.heap.size w w') (hg : Tx.OpsOwn (fun b => w.heap.size + 1 ≤ b) w' gv A) : Lw B w' sb xb ob yb kv n L M ks w.heap.size gv A := by
  obtain ⟨lb, rb, F, v, lo, ro, G, u, P, Q, h1, h2, h3, h4⟩ := h
  exact ⟨lb, rb, F, v, lo, ro, G, u, P, Q, h1.later hb, h2.later hb, h3, ⟨own_same h4.row (fun g e => hb.block g (own_block2 h4.row e).2), h4.ap⟩, fun c => by have := (h1.lt _ c).2; omega, hg.ops.keep (fun _ _ _ => rfl) (fun b _ hb c => by have := (h1.lt _ c).2; omega)⟩

theorem Lw.copied {B : Nat} {w w3 w' : World} {sb xb ob yb : Nat} {kv : Value} {n : Nat} {L M : List MOp} {ks : List ByteArray} {gv : Value} {A : List MOp} (h : Lv B w sb xb ob yb kv n L M ks) (hb : Below w.heap.size w w3) (hz : w.heap.size + 1 ≤ w3.heap.size) (hg : Tx.OpsOwn (fun b => w.heap.size + 1 ≤ b) w3 gv A)
    (hb2 : Below w3.heap.size w3 w') {cb lb2 rb2 zb : Nat} {F : Nat → Prop} {v : Value} {mid : Nat} (hs : St w3.heap.size w' cb lb2 rb2 F n L) (hr : Rst w3.heap.size w' zb v L)
    (hF : ∀ b, F b → b < mid) (hm : w3.heap.size ≤ mid) (hx : mid ≤ zb) (hv : ∀ g, v.ownBlock = some g → mid ≤ g ∧ g ≠ zb) : Lw B w' cb zb sb xb kv n L L ks w.heap.size gv A := by
  obtain ⟨lb, rb, F1, v1, lo, ro, G, u, P, Q, h1, h2, h3, h4⟩ := h.later hb
  refine ⟨lb2, rb2, F, v, lb, rb, F1, v1, _, P, Pr.made (lo := w3.heap.size) (mid := mid) (hs.down h1.base) (hr.down h1.base) h1.base (fun b hb => ⟨(hs.flt b hb).1, hF b hb⟩) hm hx hv, h1.later hb2, fun b hb c => by have := (h1.lt b c).2; omega, ⟨own_same h4.row (fun g e => hb2.block g (own_block2 h4.row e).2), fun g e => ⟨fun c => by have := (own_block2 h4.row e).2; omega, (h4.ap g e).1⟩⟩, fun c => by omega, hg.ops.keep (keeps_below hb2) (fun b hlt hb c => by omega)⟩

theorem lv_step {B : Nat} {w w1 w2 : World} {sb lb rb : Nat} {F : Nat → Prop} {xb : Nat} {v v' : Value} {n n' : Nat} {L L' M : List MOp} {P Q G : Nat → Prop} {ob lo ro yb : Nat} {u kv : Value} {ks : List ByteArray} (h : Pr B w sb lb rb F xb v n L P) (h2 : Pr B w ob lo ro G yb u n M Q) (hd : ∀ b, P b → ¬ Q b) (hk : Ks B w kv ks P Q)
    (hs : St B w1 sb lb rb (wide F w w1) n' L') (hg : Gro F w w1) (hr : Rst B w2 xb v' L') (ho : ∀ g, v'.ownBlock = some g → v.ownBlock = some g ∨ w1.heap.size ≤ g) (hg2 : Gro (fun b => b = xb) w1 w2) (hn : n ≤ n') : Lv B w2 sb xb ob yb kv n' L' M ks ∧ Gro P w w2 := by
  have q := h.step hs hg hr ho hg2
  refine ⟨⟨lb, rb, _, v', lo, ro, G, u, _, Q, q.1, (h2.more hn).keep q.2 (fun b hb c => hd b c hb), fun b hb c => ?_, ⟨own_same hk.row (fun g e => q.2.block g (own_block2 hk.row e).2 (hk.ap g e).1), fun g e => ⟨fun c => ?_, (hk.ap g e).2⟩⟩⟩, q.2⟩
  · rcases hb with d | d
    · exact hd b d c
    · have := (h2.lt b c).2; omega
  · rcases c with d | d
    · exact (hk.ap g e).1 d
    · have := (own_block2 hk.row e).2; omega
theorem Nm.copied {l : List (List MOp × Bool × Bool)} {k n : Nat} {L M : List MOp} {ks : List ByteArray} (h : Nm l k n L M ks) : Nm l k n L L ks := ⟨h.hn, h.hL, h.hL, h.hks, h.kL, h.kL, h.kk⟩
theorem Nm.step {l : List (List MOp × Bool × Bool)} {k n : Nat} {L M A : List MOp} {ks ks' : List ByteArray} (h : Nm l k n L M ks) (ht : tot l (k + 1) = tot l k + A.length) (hA : ∀ o ∈ A, o.key.size ≤ 281474976710656) (bk : Bool) (h1 : ks'.length = ks.length + A.length) (h2 : ∀ x ∈ ks', x.size ≤ 281474976710656) : Nm l (k + 1) (n + 2 * A.length) (if bk = true then stM L A A.length else L) M ks' := by
  have a1 := h.hn
  have a2 := h.hL
  have a3 := h.hM
  have a4 := h.hks
  refine ⟨by omega, ?_, by omega, by omega, ?_, h.kM, h2⟩
  · have := st_len L A A.length
    split <;> omega
  · split
    · intro o ho
      unfold stM at ho
      rcases List.mem_append.1 ho with q | q
      · exact h.kL o q
      · exact hA o (List.mem_of_mem_take (List.mem_filter.1 q).1)
    · exact h.kL
end Go.Proofs.Ytjmjjjehdgcnhaa
