/-
  Things as keys of a map.
-/
import Derived.Test.YtadlnkaphkbfdaaIn4
import Derived.DeepKeys5
namespace Go.Proofs.Ytadlnkaphkbfdaa
set_option linter.unusedVariables false
set_option linter.unusedSimpArgs false
open Go.RowKit Go.Lib Go.Maps

theorem Try.laidOut : laidOutB Try.prog = true := by kernel_rfl
theorem keys63 : Keyed Try.prog 63 := Keyed.of_law (deep_law_gate Try.laidOut (of_decide_eq_true (by kernel_rfl)) (of_decide_eq_true (by kernel_rfl)) (by kernel_rfl) (by kernel_rfl))
theorem zero61 (w : World) : (zeroValue 61).run Try.prog w = .ok (knV Kn.zero (.slice none 0 0)) w := by kernel_rfl
theorem Try.cells3 : Try.prog.cellsOf 3 = 1 := by kernel_rfl
theorem Try.cells9 : Try.prog.cellsOf 9 = 1 := by kernel_rfl
theorem Try.cells63 : Try.prog.cellsOf 63 = 2 := by kernel_rfl
theorem Try.key63 : Try.prog.keyType 63 = true := by kernel_rfl
theorem Try.types : Try.prog.types.size = 205 := by kernel_rfl
theorem key_th (t : Int) (s : ByteArray) (ht : (Lit.int .i64 t).wf = true) (hs : s.size ≤ maxLen) : ∃ kl, keyOf Try.prog 63 (thV t s) = some kl := by
  unfold keyOf thV
  rw [Try.underlying63]
  simp only [Try.key63, Bool.true_and, Try.types]
  have hf : (Value.agg #[.int .i64 t, .string s]).formed Try.prog 63 = true := by
    simp [Value.formed, Try.underlying63, Try.cells63]
  rw [if_pos hf]
  have hk : Try.prog.keyLits 206 63 (Value.agg #[.int .i64 t, .string s]).cells.toList = some [.int .i64 t, .string s.data.toList] := by
    unfold Program.keyLits
    rw [Try.underlying63]
    simp [Value.cells]
    refine ⟨Try.cells63.symm, ?_⟩
    have k3 : Try.prog.keyLits 205 3 [.int .i64 t] = some [.int .i64 t] := by
      unfold Program.keyLits
      rw [Try.underlying3]
      simp [ht]
    have k9 : Try.prog.keyLits 205 9 [.string s] = some [.string s.data.toList] := by
      unfold Program.keyLits
      rw [Try.underlying9]
      simp [hs]
    rw [Try.cells3, Try.cells9]
    simp [k3, k9]
  rw [hk]
  exact ⟨_, rfl⟩
theorem thV_inj {t t' : Int} {s s' : ByteArray} (h : thV t s = thV t' s') : t = t' ∧ s = s' := by
  unfold thV at h
  simp at h
  exact h
/-- What the map of a search holds. -/
def Knows (B : Nat) (w : World) (mb n : Nat) (K : St) : Prop :=
  ∃ (f : Value → Option Value) (S : Int → ByteArray → Value), MapV w Try.prog 63 mb n f ∧
    (∀ t s, (f (thV t s)).getD (knV Kn.zero (.slice none 0 0)) = knV (K t s) (S t s)) ∧
    (∀ t s, w.ownsRow B 3 1 (S t s) (K t s).list.length ((K t s).list.map (Value.int .i64))) ∧
    (∀ t s t' s' g, (S t s).ownBlock = some g → (S t' s').ownBlock = some g → t = t' ∧ s = s')
theorem Knows.made (B : Nat) (w : World) (l : List MOp) : Knows B (w.alloc (.map #[] 0)) w.heap.size 0 (stAt l 0) :=
  ⟨_, fun _ _ => .slice none 0 0, MapV.made w _ _, fun _ _ => rfl, fun _ _ => World.ownsRow_nil _ _ _ _, fun _ _ _ _ g hg => by simp [Value.ownBlock] at hg⟩
theorem Knows.later {B : Nat} {w w' : World} {mb n : Nat} {K : St} (h : Knows B w mb n K) (hb : Below w.heap.size w w') : Knows B w' mb n K := by
  obtain ⟨f, S, h1, h2, h3, h4⟩ := h
  exact ⟨f, S, h1.same (hb.block _ h1.lt), h2, fun t s => own_same (h3 t s) (fun g hg => hb.block g (own_block (h3 t s) hg).2.1), h4⟩
theorem own_ne {B : Nat} {w : World} {z n mb m : Nat} {v : Value} {xs : List Value} {f : Value → Option Value} (h : w.ownsRow B 3 z v n xs) (hm : MapV w Try.prog 63 mb m f) : v.ownBlock ≠ some mb := fun e => by
  obtain ⟨_, _, cs, hc⟩ := own_block h e
  obtain ⟨es, ck, he⟩ := hm.block
  rw [hc] at he
  cases he
def putS (S : Int → ByteArray → Value) (t : Int) (s : ByteArray) (v : Value) : Int → ByteArray → Value := fun t' s' => if t' = t ∧ s' = s then v else S t' s'
theorem putS_same (S : Int → ByteArray → Value) (t : Int) (s : ByteArray) (v : Value) : putS S t s v t s = v := by unfold putS; simp
theorem putS_other (S : Int → ByteArray → Value) (t : Int) (s : ByteArray) (v : Value) (t' : Int) (s' : ByteArray) (h : ¬ (t' = t ∧ s' = s)) : putS S t s v t' s' = S t' s' := by unfold putS; rw [if_neg h]
/-- What is known of a thing, by the map; and what the map holds behind an operation. -/
theorem Knows.next {B : Nat} {w : World} {mb n : Nat} {K : St} (h : Knows B w mb n K) (o : MOp) (hB : B ≤ w.heap.size) (ht : ∃ kl, keyOf Try.prog 63 (thV (thg o.kind) o.key) = some kl) :
    ∃ sl, (Instr.lookup 59 (.map (some mb)) (thV (thg o.kind) o.key) false).run Try.prog w = .ok (knV (K (thg o.kind) o.key) sl) w ∧ ∀ w0, Below w.heap.size w w0 → w0.ownsRow B 3 1 sl (K (thg o.kind) o.key).list.length ((K (thg o.kind) o.key).list.map (Value.int .i64)) ∧
      ∀ e w1, WithPost B (K (thg o.kind) o.key) sl o w0 e w1 → ∃ val f, e = .returned (knV ((K (thg o.kind) o.key).wit o) val) ∧ (∃ a n c, val = .slice a n c) ∧ MapV w1 Try.prog 63 mb n f ∧ Below B w0 w1 ∧ ∀ w2 g, IsPut f (thV (thg o.kind) o.key) (knV ((K (thg o.kind) o.key).wit o) val) g → MapV w2 Try.prog 63 mb (n + 1) g → w1.grownBy w2 (some mb) → Knows B w2 mb (n + 1) (K.on o) := by
  obtain ⟨f, S, h1, h2, h3, h4⟩ := h
  obtain ⟨kl, hk⟩ := ht
  obtain ⟨t, htt⟩ : ∃ t, thg o.kind = t := ⟨_, rfl⟩
  have hon : K.on o = K.put t o.key ((K t o.key).wit o) := by unfold St.on; rw [htt]
  rw [hon]
  rw [htt] at hk ⊢
  obtain ⟨s, hss⟩ : ∃ s, o.key = s := ⟨_, rfl⟩
  rw [hss] at hk ⊢
  refine ⟨S t s, ?_, fun w0 hb => ?_⟩
  · rw [h1.look keys63 Try.underlying59 (zero61 w) hk, h2]
  · have hB0 : B ≤ w0.heap.size := Nat.le_trans hB hb.size
    replace h3 : ∀ t s, w0.ownsRow B 3 1 (S t s) (K t s).list.length ((K t s).list.map (Value.int .i64)) := fun t s => own_same (h3 t s) (fun g hg => hb.block g (own_block (h3 t s) hg).2.1)
    replace h1 : MapV w0 Try.prog 63 mb n f := h1.same (hb.block _ h1.lt)
    clear hB hb
    revert hB0
    intro hB
    refine ⟨h3 t s, ?_⟩
    rintro e w1 ⟨sl', he, o1, a1, g1⟩
    have hm1 : w1.heap[mb]? = w0.heap[mb]? := g1.block mb h1.lt (own_ne (h3 t s) h1)
    have hBw : Below B w0 w1 := ⟨g1.os, g1.tape, g1.output, g1.size, fun b hb => g1.block b (by omega) (fun e => by have := (own_block (h3 t s) e).1; omega)⟩
    refine ⟨_, f, he, (by obtain ⟨a, c, h⟩ := own_slice o1; exact ⟨a, _, c, h⟩), h1.same hm1, hBw, fun w2 gg hp hm2 hg2 => ?_⟩
    have hne : sl'.ownBlock ≠ some mb := own_ne o1 (h1.same hm1)
    refine ⟨_, putS S t s sl', hm2, fun t' s' => ?_, fun t' s' => ?_, fun t1 s1 t2 s2 g e1 e2 => ?_⟩
    · by_cases e : t' = t ∧ s' = s
      · obtain ⟨rfl, rfl⟩ := e
        rw [hp.1, St.put_same, putS_same]
        rfl
      · rw [hp.2 _ (fun c => e (thV_inj c)), St.put_other _ _ _ _ _ _ e, putS_other _ _ _ _ _ _ e]
        exact h2 t' s'
    · by_cases e : t' = t ∧ s' = s
      · obtain ⟨rfl, rfl⟩ := e
        rw [St.put_same, putS_same]
        exact own_same o1 (fun g hg => hg2.block g (own_block o1 hg).2.1 (fun c => hne (by rw [hg, c])))
      · rw [St.put_other _ _ _ _ _ _ e, putS_other _ _ _ _ _ _ e]
        refine own_same (h3 t' s') (fun g hg => ?_)
        have hlt := (own_block (h3 t' s') hg).2.1
        rw [hg2.block g (Nat.lt_of_lt_of_le hlt g1.size) (fun c => own_ne (h3 t' s') h1 (by rw [hg, c]))]
        exact g1.block g hlt (fun c => e (h4 t' s' t s g hg c))
    · by_cases c1 : t1 = t ∧ s1 = s
      · by_cases c2 : t2 = t ∧ s2 = s
        · exact ⟨c1.1.trans c2.1.symm, c1.2.trans c2.2.symm⟩
        · obtain ⟨rfl, rfl⟩ := c1
          rw [putS_same] at e1
          rw [putS_other _ _ _ _ _ _ c2] at e2
          rcases a1 g e1 with h | h
          · exact absurd (h4 t2 s2 _ _ g e2 h) c2
          · have := (own_block (h3 t2 s2) e2).2.1
            omega
      · by_cases c2 : t2 = t ∧ s2 = s
        · obtain ⟨rfl, rfl⟩ := c2
          rw [putS_other _ _ _ _ _ _ c1] at e1
          rw [putS_same] at e2
          rcases a1 g e2 with h | h
          · exact absurd (h4 t1 s1 _ _ g e1 h) c1
          · have := (own_block (h3 t1 s1) e1).2.1
            omega
        · rw [putS_other _ _ _ _ _ _ c1] at e1
          rw [putS_other _ _ _ _ _ _ c2] at e2
          exact h4 t1 s1 t2 s2 g e1 e2
end Go.Proofs.Ytadlnkaphkbfdaa
