/-
  Walk of the law's bare: the tokens in new memory, without places.
-/
import Derived.Test.YtodbpplgpaokjaaDoorBare
namespace Go.Proofs.YtodbpplgpaokjaaDoor
set_option linter.unusedVariables false
set_option linter.unusedSimpArgs false
open Go.RowKit Go.Lib

theorem own_slice {B : Nat} {w : World} {v : Value} {n : Nat} {xs : List Value} (h : w.ownsRow B 33 4 v n xs) : ∃ ao c, v = .slice ao n c ∧ (0 < n → ∃ g, ao = some ⟨g, 0, none⟩ ∧ B ≤ g) := by
  rcases h.2 with ⟨hv, hn⟩ | ⟨g, cap, cur, hv, hg, _⟩
  · exact ⟨none, 0, by rw [hv, hn], fun h => by omega⟩
  · exact ⟨_, _, hv, fun _ => ⟨g, rfl, hg⟩⟩

set_option maxHeartbeats 1000000 in
/-- bare hands the tokens back without places, in new memory. -/
theorem bare_any {S : Nat → Prop} (v : Value) (l : List MTok) (w : World) (h : ToksIn S w v l) :
    Calls Tryd.prog 16 #[v] w fun e w' => ∃ v', e = .returned v' ∧ ToksIn Any w' v' (l.map bareT) ∧ Below w.heap.size w w' := by
  have hbig : l.length * 40 ≤ 140737488355328 := by obtain ⟨_, _, _, hl, _⟩ := h; exact hl
  have H := hid h
  obtain ⟨va, vc, rfl, -⟩ := id h
  clear h
  go_enter Tryd.func16, Tryd.ntmps16
  go_wp2_with fail
  refine (cloneToks_any _ l w H.out).mono ?_
  rintro e w1 ⟨v1, rfl, hown, hb⟩
  have O1 := hid hown
  have B1 := hid hb
  obtain ⟨ao, c, rfl, hg⟩ := own_slice hown
  clear hown hb
  have G := hid hg
  clear hg
  go_wp2
  go_loopg [4, 9] l.length (fun g _ i wr => ∃ k : Nat, k ≤ l.length ∧ l.length - k ≤ g ∧ i = .int .i64 k ∧ Aside (wr.ownsRow w.heap.size 33 4 (.slice ao l.length c) l.length (flat (brl k l))) ∧ Aside (Below w.heap.size w wr))
  case atStart => exact ⟨0, Nat.zero_le _, by omega, rfl, by rw [brl_zero]; exact O1.out, B1.out⟩
  case round =>
    obtain ⟨k, hk, hg, rfl, O, B⟩ := hrel
    by_cases hlt : k < l.length
    · have hlti : (k : Int) < (l.length : Int) := by omega
      obtain ⟨g1, rfl, hB⟩ := G.out (by omega)
      have hcA : wr.cell? ⟨g1, k * 4 + 1, none⟩ = some (.int .i64 (l.getD k default).2.1) := (O.out.cellAt (k * 4 + 1) (by omega)).trans (brl_at k l hlt)
      have hfA := O.out.frozenAt (k * 4 + 1)
      go_wp2
      go_roundg (l.length - (k + 1))
      case measure => omega
      case rel =>
        obtain ⟨o2, g2⟩ := O.out.stored (k * 4 + 1) (.int .i64 0)
        rw [brl_set k l hlt] at o2
        refine ⟨k + 1, by omega, by omega, by go_num, o2, ?_⟩
        exact B.out.grown g2 (by have := B.out.size; omega) (by intro k hk; cases hk; omega)
    · have hk' : k = l.length := by omega
      subst hk'
      go_wp2
      go_ret
      refine ⟨_, rfl, ?_, B.out⟩
      have := O.out
      rw [brl_all] at this
      have this2 : wr.ownsRow w.heap.size 33 4 (.slice ao l.length c) (l.map bareT).length (flat (l.map bareT)) := by rw [List.length_map]; exact this
      exact RowsIn.keep (own_toks this2 (by simpa using hbig)) (by omega) (fun _ _ h => h) (fun _ _ _ => rfl) (fun _ _ _ => trivial)
end Go.Proofs.YtodbpplgpaokjaaDoor
