/-
  Finals: the places of the last writes.
-/
import Derived.Test.YtadlnkaphkbfdaaIn32
namespace Go.Proofs.Ytadlnkaphkbfdaa
set_option linter.unusedVariables false
set_option linter.unusedSimpArgs false
open Go.RowKit Go.Lib Go.Maps

theorem pickF_is (u : Int × Int) (W : World) : Calls Try.prog 43 #[useV u] W fun e w' => e = .returned (.int .i64 u.2) ∧ Below W.heap.size W w' := by
  unfold useV
  obtain ⟨a, b⟩ := u
  simp only
  go_enter Try.func43, Try.ntmps43
  go_wp2_with fail
  go_ret
  exact ⟨rfl, below_box W _⟩

theorem use_fin {l : List MOp} {t : Int} {s : ByteArray} {u : Int × Int} (h : usAt l l.length t s = some u) (h0 : 0 ≤ u.2) : ∃ i : Nat, u.2 = i ∧ Fin l l.length i ∧ OfT (opAt l i) t s := by
  obtain ⟨x, f⟩ := u
  rcases (us_fin l l.length t s).1 x f h with ⟨h1, _⟩ | h1
  · simp only at h0; omega
  · exact h1

set_option maxHeartbeats 2000000 in
theorem finals_is (v : Value) (l : List MOp) (w : World) (h : OpsIn Any w v l) (hk : ∀ i, OpKey (l.getD i default)) :
    Calls Try.prog 15 #[v] w fun e w' => ∃ v', e = .returned v' ∧ IR w.heap.size w' v' (finsL l) ∧ (finsL l).length ≤ l.length ∧ Below w.heap.size w w' := by
  have hP := placesF_is v l w (fun u => u.2) h hk pickF_is (fun t s u t' s' u' h1 h2 h3 h4 => by
    obtain ⟨i, a1, a2, a3⟩ := use_fin h1 h4
    obtain ⟨j, b1, b2, b3⟩ := use_fin h2 (by omega)
    have e : i = j := by omega
    subst e
    exact ⟨a3.1.symm.trans b3.1, a3.2.symm.trans b3.2⟩)
  have HP := hid hP
  obtain ⟨va, vn, vc, hvv⟩ : ∃ a n c, v = .slice a n c := by obtain ⟨a, c, h, _⟩ := ops_at h; exact ⟨a, _, c, h⟩
  subst hvv
  clear hP h hk
  go_enter Try.func15, Try.ntmps15
  go_wp2_with fail
  go_at_call 39
  refine HP.out.mono ?_
  rintro e w1 ⟨v', p, rfl, hi, hn, hm, hl, b1⟩
  have e2 := fins_of (l := l) hn (fun x => by
    rw [hm x]
    constructor
    · rintro ⟨h0, t, s, u, h1, rfl⟩
      obtain ⟨i, a1, a2, a3⟩ := use_fin h1 h0
      exact ⟨i, a1, a2⟩
    · rintro ⟨i, rfl, hf⟩
      obtain ⟨x, hx⟩ := us_of_fin hf
      exact ⟨by omega, _, _, _, hx, rfl⟩)
  rw [e2] at hi
  have hl2 : (finsL l).length ≤ l.length := by rw [← e2, List.length_mergeSort]; exact hl
  have HI := hid hi
  have B1 := hid b1
  have HL := hid hl2
  obtain ⟨pa, pc, hpv⟩ := own_slice hi
  subst hpv
  clear hi b1 hn hm hl e2 hl2
  go_wp2_with fail
  go_ret
  exact ⟨_, rfl, HI.out, HL.out, B1.out⟩
end Go.Proofs.Ytadlnkaphkbfdaa
