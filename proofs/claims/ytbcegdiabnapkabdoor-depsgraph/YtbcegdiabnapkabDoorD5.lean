/-
  A map from two numbers to labels.
-/
import Derived.Test.YtbcegdiabnapkabDoorD4
namespace Go.Proofs.YtbcegdiabnapkabDoor
set_option linter.unusedVariables false
set_option linter.unusedSimpArgs false
open Go.RowKit Go.Maps

/-- A key. -/
def kv (a b : Nat) : Value := .agg #[.int .i64 (a : Int), .int .i64 (b : Int)]
theorem zero3 (w : World) : (zeroValue 3).run Tryd.prog w = .ok (.int .i64 0) w := by kernel_rfl
theorem wf_small (x : Nat) (hx : x ≤ 300) : (Lit.int .i64 (x : Int)).wf = true := by
  simp [Lit.wf, IntKind.min, IntKind.max, IntKind.signed, IntKind.bits]
  omega
theorem kv_key (a b : Nat) (ha : a ≤ 300) (hb : b ≤ 300) : ∃ kl, keyOf Tryd.prog 33 (kv a b) = some kl := key_of a b (wf_small a ha) (wf_small b hb)
theorem kv_inj {a b c d : Nat} (h : kv a b = kv c d) : a = c ∧ b = d := by
  unfold kv at h
  injection h with h
  simp at h
  omega
/-- A map whose keys are those of l, and that has the labels L. -/
def ML (w : World) (mb k : Nat) (l : List (Nat × Nat)) (L : Nat → Nat → Nat) : Prop :=
  ∃ D : DataW Unit, w.ownsMap Tryd.prog 33 (plainElem Tryd.prog 3) mb k D ∧ Maps.size D = l.length ∧ ∀ (f t : Nat) (kl : Lit), f ≤ 300 → t ≤ 300 → keyOf Tryd.prog 33 (kv f t) = some kl → (Maps.has D kl = true ↔ (f, t) ∈ l) ∧ D.atKey kl (.lit (.int .i64 0)) = .lit (.int .i64 (L f t))
theorem ML.made (w : World) : ML (w.alloc (.map #[] 0)) w.heap.size 0 [] (fun _ _ => 0) := ⟨_, World.ownsMap_made _ _ _ _, rfl, fun f t kl _ _ _ => ⟨⟨fun h => (by cases h), fun h => (by cases h)⟩, rfl⟩⟩
theorem ML.later {w w' : World} {mb k : Nat} {l : List (Nat × Nat)} {L : Nat → Nat → Nat} (h : ML w mb k l L) (hb : Below w.heap.size w w') : ML w' mb k l L := by
  obtain ⟨D, ⟨es, clock, h1, h2, h3, h4⟩, h5⟩ := h
  exact ⟨D, ⟨es, clock, (hb.block mb (blt h1)).trans h1, h2, h3, h4⟩, h5⟩
theorem ML.same {w w' : World} {mb k : Nat} {l : List (Nat × Nat)} {L : Nat → Nat → Nat} (h : ML w mb k l L) (hb : w'.heap[mb]? = w.heap[mb]?) : ML w' mb k l L := by
  obtain ⟨D, ⟨es, clock, h1, h2, h3, h4⟩, h5⟩ := h
  exact ⟨D, ⟨es, clock, hb.trans h1, h2, h3, h4⟩, h5⟩
theorem ML.lt {w : World} {mb k : Nat} {l : List (Nat × Nat)} {L : Nat → Nat → Nat} (h : ML w mb k l L) : mb < w.heap.size := by
  obtain ⟨D, h1, _⟩ := h
  exact h1.lt
set_option maxRecDepth 100000 in
theorem ML.look {w : World} {mb k : Nat} {l : List (Nat × Nat)} {L : Nat → Nat → Nat} (h : ML w mb k l L) (f t : Nat) (hf : f ≤ 300) (ht : t ≤ 300) : (Instr.lookup 30 (.map (some mb)) (kv f t) false).run Tryd.prog w = .ok (.int .i64 (L f t)) w := by
  obtain ⟨D, h1, _, h2⟩ := h
  obtain ⟨kl, hk⟩ := kv_key f t hf ht
  obtain ⟨v, ps, hrun, hv⟩ := h1.lookup keys33 Tryd.underlying30 (zero3 w) (plainElem_int Tryd.underlying3 (wf_small 0 (by omega))) hk
  obtain ⟨y, rfl, hy, _⟩ := plainElem_int_inv Tryd.underlying3 hv
  have h3 := (h2 f t kl hf ht hk).2
  injection hy with hy1 hy2
  have h4 : (DataW.lit (.int .i64 (L f t : Int)) : DataW Unit) = .lit (.int .i64 y) := h3.symm.trans hy1
  injection h4 with h4
  injection h4 with _ h4
  rw [hrun, h4]
set_option maxRecDepth 100000 in
theorem ML.len {w : World} {mb k : Nat} {l : List (Nat × Nat)} {L : Nat → Nat → Nat} (h : ML w mb k l L) (ty : TypeId) : (Builtin.len_ #[30] ty #[.map (some mb)]).run Tryd.prog w = .ok (.int .i64 l.length) w := by
  obtain ⟨D, h1, h2, _⟩ := h
  rw [h1.len Tryd.underlying30 ty, h2]
set_option maxRecDepth 100000 in
/-- m[key] = x. -/
theorem ML.put {w : World} {mb k : Nat} {l : List (Nat × Nat)} {L : Nat → Nat → Nat} (h : ML w mb k l L) (hk : k < maxLen) (f t x : Nat) (hf : f ≤ 300) (ht : t ≤ 300) (hx : x ≤ 300) :
    ∃ w', (Instr.mapUpdate 30 (.map (some mb)) (kv f t) (.int .i64 (x : Int))).run Tryd.prog w = .ok () w' ∧ ML w' mb (k + 1) (if (f, t) ∈ l then l else l ++ [(f, t)]) (fun f' t' => if f' = f ∧ t' = t then x else L f' t') ∧ w.grownBy w' (some mb) := by
  obtain ⟨D, h1, h2, h3⟩ := h
  obtain ⟨kl, hkl⟩ := kv_key f t hf ht
  obtain ⟨w', r1, r2, r3⟩ := h1.update keys33 Tryd.underlying30 hk hkl (plainElem_int Tryd.underlying3 (wf_small x hx))
  refine ⟨w', r1, ⟨_, r2, ?_, fun f' t' kl' hf' ht' hk' => ?_⟩, r3⟩
  · rw [size_put (h1.tidy keys33)]
    have hh := (h3 f t kl hf ht hkl).1
    by_cases hm : (f, t) ∈ l
    · rw [hh.2 hm, if_pos hm, if_pos rfl, h2]
    · have : Maps.has D kl = false := by
        cases e : Maps.has D kl with
        | false => rfl
        | true => exact absurd (hh.1 e) hm
      rw [this, if_neg hm, h2]
      simp
  · by_cases e : f' = f ∧ t' = t
    · obtain ⟨rfl, rfl⟩ := e
      rw [hkl] at hk'
      cases hk'
      rw [has_put_same h1.isMap (keys33.key hkl), atKey_put_same h1.isMap (keys33.key hkl)]
      refine ⟨⟨fun _ => ?_, fun _ => rfl⟩, by dsimp only; rw [if_pos ⟨rfl, rfl⟩]⟩
      by_cases hm : (f', t') ∈ l
      · rw [if_pos hm]; exact hm
      · rw [if_neg hm]; simp
    · have hne : kl' ≠ kl := fun c => e (kv_inj (keys33.inj (by rw [hk', c]) hkl))
      rw [has_put_other hne, atKey_put_other hne]
      obtain ⟨q1, q2⟩ := h3 f' t' kl' hf' ht' hk'
      refine ⟨q1.trans ?_, by dsimp only; rw [if_neg e]; exact q2⟩
      by_cases hm : (f, t) ∈ l
      · rw [if_pos hm]
      · rw [if_neg hm, List.mem_append]
        constructor
        · exact .inl
        · rintro (h | h)
          · exact h
          · simp at h
            exact absurd h e
end Go.Proofs.YtbcegdiabnapkabDoor
