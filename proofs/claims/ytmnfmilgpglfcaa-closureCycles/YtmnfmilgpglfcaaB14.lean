/-
  Copy, and Same.
-/
import Derived.Test.YtmnfmilgpglfcaaB7
import Derived.Laws.CopyOwn
import Derived.Deep.RegionLaw
namespace Go.Proofs.Ytmnfmilgpglfcaa
set_option linter.unusedVariables false
set_option linter.unusedSimpArgs false
open Go.RowKit

theorem Try.size68 : (Try.prog.info? 53).map (·.size) = some 1 := by kernel_rfl
/-- A whole row copied onto another one, at a step of a region that draws its order. -/
theorem step_copy_all {P : Program} {ops : Array Oper} {o : Oper} {a : Act} {w : World} {K : Act → World → Prop} {Q : Exit → Act → World → Prop} {E : Prop} (hgd : o.guard = none) (d s : Operand) (dT sT : TypeId)
    (ho : o.op = .call { callee := .builtin .copy, args := #[d, s], argTypes := #[dT, sT] }) (elem : TypeId) (hu : P.underlying dT = some (.slice elem)) (hsz : (P.info? elem).map (·.size) = some 1)
    (g c m : Nat) (hd : a.eval d = .slice (some ⟨g, 0, none⟩) m m) (hs : a.eval s = .slice (some ⟨c, 0, none⟩) m m)
    (cur : Array Value) (t : TypeId) (hg : w.heap[g]? = some (.cells cur t (0, 0))) (cs : List Value) (hn : cs.length = m) (hcur : cur.size = m)
    (hsrc : ∀ j v, cs[j]? = some v → w.cell? ⟨c, j, none⟩ = some v) (h1 : ∀ v ∈ cs, v.oneCell' = true)
    (h : ∀ w', w'.heap[g]? = some (.cells cs.toArray t (0, 0)) → Beside g w w' → w'.heap.size = w.heap.size → K (a.put o.dst (goInt cs.length)) w') :
    if Region.wanted o (yielded ops a.tmps) = true then Oper.wp P o a w K Q else E := by
  have hw : Region.wanted o (yielded ops a.tmps) = true := by simp [Region.wanted, hgd]
  rw [if_pos hw]
  by_cases h0 : cs.length = 0
  · obtain rfl : cs = [] := List.eq_nil_of_length_eq_zero h0
    have hm : m = 0 := by simpa using hn.symm
    subst hm
    have hrun := run_copy_none (P := P) w dT sT o.type elem (some ⟨g, 0, none⟩) (some ⟨c, 0, none⟩) 0 0 0 0 hu hsz rfl
    unfold Oper.wp
    simp [execOp, ho, resolve, invoke, builtin, hd, hs, hrun, Result.andThen]
    have e : cur = #[] := Array.size_eq_zero_iff.1 hcur
    subst e
    exact h w hg (Beside.refl _ _) rfl
  · have hrun := run_copy_row (P := P) w dT sT o.type elem g 0 m m ⟨c, 0, none⟩ m m cur t cs hu hsz hg (by simpa using hn) (fun j v hv => by
      have hadd : (⟨c, 0, none⟩ : Addr).add j = ⟨c, j, none⟩ := by unfold Addr.add; split <;> simp_all
      rw [hadd]
      exact hsrc j v hv) (by omega) h1
    have e : cur.toList.take 0 ++ cs ++ cur.toList.drop (0 + cs.length) = cs := by
      rw [List.drop_of_length_le (by simp; omega)]
      simp
    rw [e] at hrun
    unfold Oper.wp
    simp [execOp, ho, resolve, invoke, builtin, hd, hs, hrun, Result.andThen]
    exact h _ (setRow_heap w g _ _ t _ hg) ⟨rfl, rfl, rfl, by simp, fun k _ hk => setRow_other w g k _ hk⟩ (by simp)

set_option maxHeartbeats 2000000 in
theorem copy_at (b n c : Nat) (ws : List Nat) (w : World) (h : SetAt w b n c ws) :
    Calls Try.prog 22 #[.pointer (some ⟨b, 0, none⟩)] w fun e w' => e = .returned (.pointer (some ⟨w.heap.size + 1, 0, none⟩)) ∧ SetAt w' (w.heap.size + 1) n w.heap.size ws ∧ Below w.heap.size w w' ∧ w'.heap.size = w.heap.size + 2 := by
  have c0 := h.c0
  have c1 := h.c1
  have hbd := h.bound
  have S := hid h
  clear h
  go_enter Try.func22, Try.ntmps22
  go_wp2_with (first | (go_at_call 25; refine (isMade_at _ _ _ c0).mono ?_; rintro e w' ⟨rfl, rfl⟩))
  go_at_call 21
  refine (new_set n hbd w).mono ?_
  rintro e w1 ⟨rfl, s1, b1, z1⟩
  have S1 := hid s1
  have B1 := hid b1
  have Z1 := hid z1
  have SW : Hid (SetAt w1 b n c ws) := S.out.later b1
  have hlen : ws.length = (n + 63) / 64 := S.out.len
  have e2 : w1.cell? ⟨b, 2, none⟩ = some (.slice (some ⟨c, 0, none⟩) ((n + 63) / 64) ((n + 63) / 64)) := by have := SW.out.c2; rwa [hlen] at this
  have f2 : w1.cell? ⟨w.heap.size + 1, 2, none⟩ = some (.slice (some ⟨w.heap.size, 0, none⟩) ((n + 63) / 64) ((n + 63) / 64)) := by have := s1.c2; rwa [List.length_replicate] at this
  clear s1 b1 z1 c0 c1
  have HL := hid hlen
  clear hlen
  generalize hm : (n + 63) / 64 = m at *
  clear hm
  go_wp2_with fail
  have HSRC : Hid (∀ j v, (ws.map fun x : Nat => Value.int .u64 x)[j]? = some v → w1.drew.cell? ⟨c, j, none⟩ = some v) := fun j v hv => by
    have h1 := Lib.cell_of_heap SW.out.row j
    rw [words_at] at h1
    exact h1.trans (by simpa using hv)
  have HLM : Hid ((ws.map fun x : Nat => Value.int .u64 x).length = m) := by
    have := HL.out
    show _ = _
    simpa using this
  have HCU : Hid ((wordsV (List.replicate m 0)).size = m) := by
    show _ = _
    simp [wordsV]
  have HON : Hid (∀ v ∈ (ws.map fun x : Nat => Value.int .u64 x), v.oneCell' = true) := fun v hv => by simp at hv; obtain ⟨x, _, rfl⟩ := hv; rfl
  go_region_law (refine step_copy_all rfl (.tmp 19) (.tmp 23) 54 54 rfl 53 Try.underlying54 Try.size68 w.heap.size c m (by simp [Act.eval, Act.put]) (by simp [Act.eval, Act.put]) (wordsV (List.replicate m 0)) 53 S1.out.row (ws.map fun x : Nat => Value.int .u64 x) HLM.out HCU.out HSRC.out HON.out ?_; intro w2 r2 bs2 z2)
  all_goals
    have R2 := hid r2
    have BS := hid bs2
    have Z2 := hid z2
    clear r2 bs2 z2
    go_wp2_with fail
    go_ret
    have bx : w2.heap[w.heap.size + 1]? = _ := (BS.out.block (w.heap.size + 1) (blt S1.out.box) (by omega)).trans S1.out.box
    refine ⟨rfl, ⟨?_, R2.out, by rw [HL.out, ← List.length_replicate (n := m) (a := 0)]; exact S1.out.len, S.out.small, hbd⟩, ?_, Z2.out.trans Z1.out⟩
    · rw [bx, List.length_replicate, HL.out]
    · exact B1.out.drew.trans (BS.out.below (Nat.le_refl _) B1.out.size)
theorem copy_is (b n c : Nat) (f : Nat → Bool) (w : World) (h : Is w b n c f) :
    Calls Try.prog 22 #[.pointer (some ⟨b, 0, none⟩)] w fun e w' => e = .returned (.pointer (some ⟨w.heap.size + 1, 0, none⟩)) ∧ Is w' (w.heap.size + 1) n w.heap.size f ∧ Below w.heap.size w w' ∧ w'.heap.size = w.heap.size + 2 := by
  obtain ⟨ws, h1, h2⟩ := h.ex
  refine (copy_at b n c ws w h1).mono ?_
  rintro e w' ⟨rfl, s, bl, z⟩
  exact ⟨rfl, ⟨⟨ws, s, h2⟩, h.top⟩, bl, z⟩
end Go.Proofs.Ytmnfmilgpglfcaa
