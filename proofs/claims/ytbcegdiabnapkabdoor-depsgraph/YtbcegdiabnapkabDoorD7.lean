/-
  m[key] = m[key] | x, as the code has it: an entry, then a store.
-/
import Derived.Test.YtbcegdiabnapkabDoorD6
namespace Go.Proofs.YtbcegdiabnapkabDoor
set_option linter.unusedVariables false
set_option linter.unusedSimpArgs false
open Go.RowKit Go.Maps Go.WideElems Go.ChangeMaps Go.MapKept

set_option maxHeartbeats 2000000 in
set_option maxRecDepth 100000 in
/-- An entry, a look behind it, and what a store behind it leaves. -/
theorem ML.entry {w : World} {mb k : Nat} {l : List (Nat × Nat)} {L : Nat → Nat → Nat} (h : ML w mb k l L) (hk : k < maxLen) (f t : Nat) (hf : f ≤ 300) (ht : t ≤ 300) :
    ∃ (v0 : Value) (st : Nat) (w1 : World), (Instr.mapEntry 30 (.map (some mb)) (kv f t)).run Tryd.prog w = .ok (.tuple #[v0, goInt st]) w1 ∧
      (Instr.lookup 30 (.map (some mb)) (kv f t) false).run Tryd.prog w1 = .ok (.int .i64 (L f t)) w1 ∧
      ∀ x : Nat, x ≤ 300 → ∃ w3, (Instr.entryStore 30 (.map (some mb)) (goInt st) (.int .i64 (x : Int))).run Tryd.prog w1 = .ok () w3 ∧ w.grownBy w3 (some mb) ∧
        ML w3 mb (k + 1) (if (f, t) ∈ l then l else l ++ [(f, t)]) (fun f' t' => if f' = f ∧ t' = t then x else L f' t') := by
  obtain ⟨kl, hkl⟩ := kv_key f t hf ht
  have h' := h
  obtain ⟨D, ⟨es, clock, hb, F, hs, hD⟩, hrest⟩ := h
  obtain ⟨v0, st, es1, clock1, r1, -, r2⟩ := entry_then_store law33 Tryd.underlying30 zero3 hb F hkl
  refine ⟨v0, st, _, r1, ?_, fun x hx => ?_⟩
  · rcases law33.find w hkl es.toList F.keys with ⟨h1, h2⟩ | ⟨j, e0, h1, h2, h3⟩
    · have hrun : (Instr.mapEntry 30 (.map (some mb)) (kv f t)).run Tryd.prog w = .ok (.tuple #[.int .i64 0, goInt clock]) (setBlock w mb (.map (es.push ⟨kv f t, .int .i64 0, clock⟩) (clock + 1))) := by
        simp [Instr.mapEntry, run_underlying Tryd.underlying30, MapKept.run_getObj_map hb, law33.check w false hkl, h1, zero3, MapKept.run_setObj_map _ hb, Result.andThen, setBlock]
      have hup : (Instr.mapUpdate 30 (.map (some mb)) (kv f t) (.int .i64 0)).run Tryd.prog w = .ok () (setBlock w mb (.map (es.push ⟨kv f t, .int .i64 0, clock⟩) (clock + 1))) := by
        simp [Instr.mapUpdate, run_underlying Tryd.underlying30, MapKept.run_getObj_map hb, law33.check w false hkl, h1, MapKept.run_setObj_map _ hb, Result.andThen, setBlock]
      have hw1 := (Result.ok.inj (r1.symm.trans hrun)).2
      rw [hw1]
      obtain ⟨w', p1, p2, p3⟩ := h'.put hk f t 0 hf ht (by omega)
      have e : w' = setBlock w mb (.map (es.push ⟨kv f t, .int .i64 0, clock⟩) (clock + 1)) := by
        exact (Result.ok.inj (p1.symm.trans hup)).2
      rw [← e]
      have hL : L f t = 0 := by
        have h0 := h'.look f t hf ht
        have : (Instr.lookup 30 (.map (some mb)) (kv f t) false).run Tryd.prog w = .ok (.int .i64 0) w := by
          simp [Instr.lookup, run_underlying Tryd.underlying30, MapKept.run_getObj_map hb, law33.check w false hkl, law33.check w true hkl, law33.check w _ hkl, h1, zero3, Result.andThen]
        have h00 := (Value.int.inj (Result.ok.inj (h0.symm.trans this)).1).2
        omega
      have := p2.look f t hf ht
      simpa [hL] using this
    · have hj : es[j]? = some e0 := by simpa using h2
      have hsame : es.modify j (fun e => { e with key := kv f t }) = es := by
        apply Array.ext'
        rw [Array.toList_modify, modify_eq_set _ _ _ _ h2]
        have : ({ e0 with key := kv f t } : MapEntry) = e0 := by rw [← h3]
        rw [this]
        exact set_self _ _ _ h2
      have hrun : (Instr.mapEntry 30 (.map (some mb)) (kv f t)).run Tryd.prog w = .ok (.tuple #[e0.val, goInt e0.born]) (setBlock w mb (.map es clock)) := by
        simp [Instr.mapEntry, run_underlying Tryd.underlying30, MapKept.run_getObj_map hb, law33.check w false hkl, h1, hj, h3, law33.stays w hkl, hsame, MapKept.run_setObj_map _ hb, Result.andThen, setBlock]
      have hw1 := (Result.ok.inj (r1.symm.trans hrun)).2
      rw [hw1]
      exact (h'.same (by rw [heap_setBlock_same hb]; exact hb.symm)).look f t hf ht
  · obtain ⟨es', clock', q1, q2⟩ := r2 (setBlock w mb (.map es1 clock1)) (.int .i64 (x : Int)) (heap_setBlock_same hb _)
    obtain ⟨w', p1, p2, p3⟩ := h'.put hk f t x hf ht hx
    have e : w' = setBlock w mb (.map es' clock') := by
      exact (Result.ok.inj (p1.symm.trans q2)).2
    refine ⟨_, q1, ?_, p2.same ?_⟩
    · exact ⟨rfl, rfl, rfl, by simp [setBlock], fun i _ hi => (heap_setBlock_other (heap_setBlock_same hb _) _ (fun e => hi (by rw [e]))).trans (heap_setBlock_other hb _ (fun e => hi (by rw [e])))⟩
    · rw [heap_setBlock_same (heap_setBlock_same hb _), e, heap_setBlock_same hb]
end Go.Proofs.YtbcegdiabnapkabDoor
