/-
  The search for components: leave.
  The search for components: lower.
  The search for components: walk.
  slices.Compare of numbers: where the first ones differ, and of a slice with itself; slices.SortFunc by it.
-/
import Derived.Test.YtdihbeffomibeaaGreatDoorY15
import Derived.Deep.QuietTactic
import Derived.BigQuiet
import Derived.Test.YtdihbeffomibeaaGreatDoorY13
import Derived.Test.YtdihbeffomibeaaGreatDoorY11
import Derived.LoopN
import Derived.Shelf.SlSortCmp.NoneTotal
namespace Go.Proofs.YtdihbeffomibeaaGreatDoor
set_option linter.unusedVariables false
set_option linter.unusedSimpArgs false
open Go.RowKit

theorem Sr.lay {w : World} {H sb mk : Nat} {outf wv fv : Value} {n come : Nat} {num low : Nat → Nat} {ws : List Stp} {opn : List Nat} {fs : List (List Nat × Value)} {g N cap : Nat} (h : Sr w H sb mk outf wv (.slice (some ⟨g, 0, none⟩) N cap) fv n come num low ws opn fs) : N = opn.length ∧ opn.length ≤ cap ∧ cap ≤ maxLen ∧ Lay1 w g cap opn.length (fun j => ((opn.getD j 0 : Nat) : Int)) := by
  have hr := h.opnR
  rcases hr.2 with ⟨hv, _⟩ | ⟨g', cap', cur, hv, hB, hh, h1, h2, h3, h4⟩
  · cases hv
  injection hv with e1 e2 e3
  injection e1 with e1
  injection e1 with e1
  subst e1
  subst e3
  refine ⟨e2, h1, h2, cur, hh, ⟨by omega, h1⟩, fun j hj => ?_⟩
  have e : cur.toList[j]? = (cur.toList.take (opn.length * 1))[j]? := by rw [List.getElem?_take, if_pos (by omega)]
  rw [← Array.getElem?_toList, e, h4]
  simp [intsV, List.getElem?_map, List.getD, hj]

set_option maxHeartbeats 8000000 in
set_option maxRecDepth 100000 in
theorem leave_stay {Wb w : World} (hB : Below Wb.heap.size Wb w) {sb mk : Nat} {outf ov fv : Value} {n come : Nat} {num low : Nat → Nat} {A : List Stp} {p : Stp} {opn : List Nat} {fs : List (List Nat × Value)} {gw cw : Nat}
    (h : Sr w Wb.heap.size sb mk outf (.slice (some ⟨gw, 0, none⟩) (A.length + 1) cw) ov fv n come num low (A ++ [p]) opn fs) (u : Nat) (hu : u < n) (hl : low u < num u) (hcw : A.length + 1 ≤ cw) (hcm : cw ≤ maxLen) :
    Calls Tryz.prog 83 #[.pointer (some ⟨sb, 0, none⟩), .int .i64 u] w fun e w' => e = .returned (.tuple #[]) ∧ Sr w' Wb.heap.size sb mk outf (.slice (some ⟨gw, 0, none⟩) A.length cw) ov fv n come num low A opn fs ∧ Below Wb.heap.size Wb w' := by
  have S1 : Hid (Sr (w.setCell ⟨sb, 3, none⟩ (.slice (some ⟨gw, 0, none⟩) A.length cw)).drew Wb.heap.size sb mk outf (.slice (some ⟨gw, 0, none⟩) A.length cw) ov fv n come num low A opn fs) := h.cutWay.later (Below.refl _ _).drew
  have B1 : Hid (Below Wb.heap.size Wb (w.setCell ⟨sb, 3, none⟩ (.slice (some ⟨gw, 0, none⟩) A.length cw)).drew) := (hB.setCell h.high.1 _).drew
  obtain ⟨c0, c1, c2, c3, c4, c5⟩ := h.cells
  have f3 := h.fz 3
  clear c0 c1 c2 c4 c5 h hB
  unfold maxLen at hcm
  generalize A.length = N at *
  have hN0 : (0 : Int) ≤ N := by omega
  have hNc : (N : Int) ≤ cw := by omega
  have hNc2 : (N : Int) + 1 ≤ cw := by omega
  have hcw2 : (cw : Int) ≤ 9223372036854775807 := by omega
  have hN1 : ((N : Int) + 1 - 1) = N := by omega
  have hui : (u : Int) < n := by omega
  have hu0 : (0 : Int) ≤ u := by omega
  have hli : (low u : Int) < num u := by omega
  go_enter Tryz.func83, Tryz.ntmps83
  go_wp2_with fail
  go_region
  clear c3 f3
  generalize (w.setCell ⟨sb, 3, none⟩ (.slice (some ⟨gw, 0, none⟩) N cw)).drew = w1 at *
  obtain ⟨c0, c1, c2, c3, c4, c5⟩ := S1.out.cells
  obtain ⟨m0, m1, _, _⟩ := S1.out.marks.cell u hu
  clear c0 c2 c3 c4 c5
  generalize low u = a at *
  generalize num u = b at *
  go_wp2_with fail
  go_quiet (fail)
  go_wp2_with fail
  (try simp only [Exit.inBlock, Exit.then])
  refine bodyPost_ret (results_none rfl _ _ _) rfl ?_
  exact ⟨rfl, S1.out.later (below_drewN (Below.refl _ _) _), below_drewN B1.out _⟩
theorem index_of {O1 O2 : List Nat} {u : Nat} {r : Int} (hu : u ∉ O1) (h : IsIndex (O1 ++ u :: O2).length (fun j => (((O1 ++ u :: O2).getD j 0 : Nat) : Int)) (u : Int) r) : r = (O1.length : Int) := by
  have hat : (O1 ++ u :: O2).getD O1.length 0 = u := by simp [List.getD]
  rcases h with ⟨k, rfl, hk, h1, h2⟩ | ⟨rfl, h1⟩
  · rcases Nat.lt_trichotomy k O1.length with c | c | c
    · exfalso
      apply hu
      have e : (O1 ++ u :: O2).getD k 0 = O1[k] := by simp [List.getD, List.getElem?_append_left c, List.getElem?_eq_getElem c]
      have h1' : (((O1 ++ u :: O2).getD k 0 : Nat) : Int) = u := h1
      rw [e] at h1'
      have : O1[k] = u := by omega
      rw [← this]
      exact List.getElem_mem c
    · rw [c]
    · exact absurd (by show (((O1 ++ u :: O2).getD O1.length 0 : Nat) : Int) = (u : Int); rw [hat]) (h2 O1.length c)
  · exact absurd (by show (((O1 ++ u :: O2).getD O1.length 0 : Nat) : Int) = (u : Int); rw [hat]) (h1 O1.length (by simp))

set_option maxHeartbeats 8000000 in
set_option maxRecDepth 100000 in
theorem leave_close {Wb w : World} (hB : Below Wb.heap.size Wb w) {sb mk : Nat} {outf fv : Value} {n come : Nat} {num low : Nat → Nat} {A : List Stp} {p : Stp} {O1 O2 : List Nat} {fs : List (List Nat × Value)} {gw cw g N cap : Nat} (u : Nat)
    (h : Sr w Wb.heap.size sb mk outf (.slice (some ⟨gw, 0, none⟩) (A.length + 1) cw) (.slice (some ⟨g, 0, none⟩) N cap) fv n come num low (A ++ [p]) (O1 ++ u :: O2) fs) (hu : u < n) (hl : ¬ low u < num u) (hcw : A.length + 1 ≤ cw) (hcm : cw ≤ maxLen) (hO : u ∉ O1) (hS : ∀ v ∈ u :: O2, v < n) (hlen : (O1 ++ u :: O2).length ≤ 300) (hf : fs.length ≤ 300) :
    Calls Tryz.prog 83 #[.pointer (some ⟨sb, 0, none⟩), .int .i64 u] w fun e w' => e = .returned (.tuple #[]) ∧ (∃ cv fv', Sr w' Wb.heap.size sb mk outf (.slice (some ⟨gw, 0, none⟩) A.length cw) (.slice (some ⟨g, 0, none⟩) O1.length cap) fv' n come (putN num (u :: O2) KK) (putN low (u :: O2) KK) A O1 (fs ++ [(srt (u :: O2), cv)])) ∧ Below Wb.heap.size Wb w' := by
  have S1 : Hid (Sr (w.setCell ⟨sb, 3, none⟩ (.slice (some ⟨gw, 0, none⟩) A.length cw)).drew Wb.heap.size sb mk outf (.slice (some ⟨gw, 0, none⟩) A.length cw) (.slice (some ⟨g, 0, none⟩) N cap) fv n come num low A (O1 ++ u :: O2) fs) := h.cutWay.later (Below.refl _ _).drew
  have B1 : Hid (Below Wb.heap.size Wb (w.setCell ⟨sb, 3, none⟩ (.slice (some ⟨gw, 0, none⟩) A.length cw)).drew) := (hB.setCell h.high.1 _).drew
  obtain ⟨c0, c1, c2, c3, c4, c5⟩ := h.cells
  have f3 := h.fz 3
  have hhi := h.high
  obtain ⟨hNl, hcap, hcapm, _⟩ := h.lay
  clear c0 c1 c2 c4 c5 h hB
  unfold maxLen at hcm hcapm
  generalize hAL : A.length = M at *
  have HAL := hid hAL
  clear hAL
  have hN0 : (0 : Int) ≤ M := by omega
  have hNc : (M : Int) ≤ cw := by omega
  have hNc2 : (M : Int) + 1 ≤ cw := by omega
  have hcw2 : (cw : Int) ≤ 9223372036854775807 := by omega
  have hN1 : ((M : Int) + 1 - 1) = M := by omega
  have hui : (u : Int) < n := by omega
  have hu0 : (0 : Int) ≤ u := by omega
  have hli : ¬ (low u : Int) < num u := by omega
  have HS := hid hS
  have HO := hid hO
  rw [List.length_append, List.length_cons] at hNl hlen hcap
  clear hS hO
  go_enter Tryz.func83, Tryz.ntmps83
  go_wp2_with fail
  go_region
  clear c3 f3
  generalize (w.setCell ⟨sb, 3, none⟩ (.slice (some ⟨gw, 0, none⟩) M cw)).drew = w1 at *
  obtain ⟨c0, c1, c2, c3, c4, c5⟩ := S1.out.cells
  obtain ⟨m0, m1, _, _⟩ := S1.out.marks.cell u hu
  clear c0 c2 c3 c4 c5
  generalize low u = a at *
  generalize num u = b at *
  go_wp2_with fail
  go_quiet (fail)
  clear m0 m1 c1 hl
  have S2 := fun q => S1.out.later (below_drewN (Below.refl _ w1) q)
  have B2 := fun q => below_drewN B1.out q
  have HS2 := hid S2
  have HB2 := hid B2
  clear S2 B2 S1 B1
  generalize hw2 : w1.drewN nq = w2 at *
  have S3 : Hid (Sr w2 Wb.heap.size sb mk outf (.slice (some ⟨gw, 0, none⟩) M cw) (.slice (some ⟨g, 0, none⟩) N cap) fv n come num low A (O1 ++ u :: O2) fs) := by rw [← hw2]; exact HS2.out nq
  have B3 : Hid (Below Wb.heap.size Wb w2) := by rw [← hw2]; exact HB2.out nq
  clear hw2 HS2 HB2
  obtain ⟨c0, c1, c2, c3, c4, c5⟩ := S3.out.cells
  have f4 := S3.out.fz 4
  have IX := hid (index_is g cap (O1 ++ u :: O2).length cap _ (u : Int) w2 S3.out.lay.2.2.2 (by rw [List.length_append, List.length_cons]; omega))
  have HL : Hid ((O1 ++ u :: O2).length = N) := by show (O1 ++ u :: O2).length = N; rw [List.length_append, List.length_cons]; omega
  have IX2 : Hid (Calls Tryz.prog 92 #[.slice (some ⟨g, 0, none⟩) N cap, .int .i64 u] w2 fun e w' => e = .returned (.int .i64 ((O1.length : Nat) : Int)) ∧ w2 = w') := by
    have q := IX.out
    rw [HL.out] at q
    refine q.mono ?_
    rintro e w' ⟨⟨ri, rfl, hix⟩, rfl⟩
    rw [← HL.out] at hix
    rw [index_of HO.out hix]
    exact ⟨rfl, rfl⟩
  obtain ⟨K1, hK1⟩ : ∃ K1, O1.length = K1 := ⟨_, rfl⟩
  have HK1 := hid hK1
  rw [hK1] at IX2 hNl hlen hcap
  have hKi0 : (0 : Int) ≤ K1 := by omega
  have hKiN : (K1 : Int) ≤ N := by omega
  have hKic : (K1 : Int) ≤ cap := by omega
  have hNic : (N : Int) ≤ cap := by omega
  have hcapi : (cap : Int) ≤ 9223372036854775807 := by omega
  have hne : ¬ cap = K1 := by omega
  have hne2 : ¬ (cap - K1 = 0) := by omega
  have hne3 : K1 < cap := by omega
  have hNb : (N : Int) ≤ 300 := by omega
  have HNL := hid hNl
  clear hK1 hNl IX c0 c1 c2 c3 c5 hlen hcap
  go_wp2_with fail
  go_at_call 92
  refine IX2.out.mono ?_
  rintro e w' ⟨rfl, rfl⟩
  clear IX2
  have hlS : (u :: O2).length = N - K1 := by have := HNL.out; rw [List.length_cons]; omega
  have CL : Hid (Calls Tryz.prog 93 #[.pointer (some ⟨sb, 0, none⟩), .slice (some ⟨g, K1, none⟩) (N - K1) (cap - K1)] w2 fun e w' => e = .returned (.tuple #[]) ∧ (∃ cv fv', Sr w' Wb.heap.size sb mk outf (.slice (some ⟨gw, 0, none⟩) M cw) (.slice (some ⟨g, 0, none⟩) N cap) fv' n come (putN num (u :: O2) KK) (putN low (u :: O2) KK) A (O1 ++ u :: O2) (fs ++ [(srt (u :: O2), cv)])) ∧ Below Wb.heap.size Wb w') := by
    have q := close_is B3.out S3.out HS.out (by simp) (by rw [hlS]; omega) hf (cap - K1) (by rw [hlS]; omega)
    rw [hlS, HK1.out] at q
    exact q
  have HLS := hid hlS
  clear hlS B3 S3
  go_wp2_with fail
  go_at_call 93
  refine CL.out.mono ?_
  rintro e w3 ⟨rfl, ⟨cv, fv', s3⟩, b3⟩
  clear c4 f4
  obtain ⟨c0, c1, c2, c3, c4, c5⟩ := s3.cells
  have f4 := s3.fz 4
  have S4 : Hid (Sr (w3.setCell ⟨sb, 4, none⟩ (.slice (some ⟨g, 0, none⟩) K1 cap)) Wb.heap.size sb mk outf (.slice (some ⟨gw, 0, none⟩) M cw) (.slice (some ⟨g, 0, none⟩) K1 cap) fv' n come (putN num (u :: O2) KK) (putN low (u :: O2) KK) A O1 (fs ++ [(srt (u :: O2), cv)])) := by
    have q := s3.cutOpen (by have := HNL.out; rw [HLS.out, HK1.out]; omega) (by have := HNL.out; omega)
    rw [HK1.out] at q
    exact q
  have B4 : Hid (Below Wb.heap.size Wb (w3.setCell ⟨sb, 4, none⟩ (.slice (some ⟨g, 0, none⟩) K1 cap))) := b3.setCell hhi.1 _
  clear c0 c1 c2 c3 c5 s3 b3 CL
  go_wp2_with fail
  go_end0
  refine ⟨rfl, ⟨cv, fv', ?_⟩, B4.out⟩
  rw [HK1.out]
  exact S4.out
end Go.Proofs.YtdihbeffomibeaaGreatDoor
namespace Go.Proofs.YtdihbeffomibeaaGreatDoor
set_option linter.unusedVariables false
set_option linter.unusedSimpArgs false
open Go.RowKit

set_option maxHeartbeats 4000000 in
set_option maxRecDepth 100000 in
theorem lower_is {w : World} {H sb mk : Nat} {outf wv ov fv : Value} {n come : Nat} {num low : Nat → Nat} {ws : List Stp} {opn : List Nat} {fs : List (List Nat × Value)} (h : Sr w H sb mk outf wv ov fv n come num low ws opn fs) (u v : Nat) (hu : u < n) (hv : v < n) (hs : H ≤ w.heap.size) :
    Calls Tryz.prog 82 #[.pointer (some ⟨sb, 0, none⟩), .int .i64 u, .int .i64 v] w fun e w' => e = .returned (.tuple #[]) ∧ Sr w' H sb mk outf wv ov fv n come num (updN low u (min (low u) (low v))) ws opn fs ∧ Below H w w' := by
  obtain ⟨c0, c1, c2, c3, c4, c5⟩ := h.cells
  obtain ⟨_, m1, _, f1⟩ := h.marks.cell u hu
  obtain ⟨_, m3, _, f3⟩ := h.marks.cell v hv
  have hui : (u : Int) < n := by omega
  have hu0 : (0 : Int) ≤ u := by omega
  have hvi : (v : Int) < n := by omega
  have hv0 : (0 : Int) ≤ v := by omega
  have SN : Hid (Sr (w.setCell ⟨mk, u * 2 + 1, none⟩ (.int .i64 ((min (low u) (low v) : Nat) : Int))) H sb mk outf wv ov fv n come num (updN low u (min (low u) (low v))) ws opn fs) := h.mark _ _ (h.marks.low u _ hu)
  have BN : Hid (Below H w (w.setCell ⟨mk, u * 2 + 1, none⟩ (.int .i64 ((min (low u) (low v) : Nat) : Int)))) := (Below.refl _ _).setCell h.high.2 _
  clear c0 c2 c3 c4 c5 h
  have hmin : min (low u : Int) (low v : Int) = ((min (low u) (low v) : Nat) : Int) := by omega
  generalize hz : min (low u) (low v) = z at *
  clear hz
  generalize low u = a at *
  generalize low v = b at *
  go_enter Tryz.func82, Tryz.ntmps82
  go_wp2_with fail
  go_region
  all_goals (try go_wp2_with fail)
  all_goals go_end0
  all_goals exact ⟨rfl, SN.out.later (Below.refl _ _).drew, BN.out.drew⟩
end Go.Proofs.YtdihbeffomibeaaGreatDoor
namespace Go.Proofs.YtdihbeffomibeaaGreatDoor
set_option linter.unusedVariables false
set_option linter.unusedSimpArgs false
open Go.RowKit

theorem flat_at (A : List Stp) (p : Stp) : (waysC (A ++ [p]))[A.length * 2]? = some (.int .i64 (p.1.1 : Int)) ∧ (waysC (A ++ [p]))[A.length * 2 + 1]? = some p.2 := by
  rw [waysC_snoc]
  constructor
  · rw [List.getElem?_append_right (by rw [waysC_len]; omega), waysC_len, Nat.sub_self]
    rfl
  · rw [List.getElem?_append_right (by rw [waysC_len]; omega), waysC_len, show A.length * 2 + 1 - A.length * 2 = 1 by omega]
    rfl
/-- The last stop in memory. -/
theorem Sr.top {w : World} {H sb mk : Nat} {outf wv ov fv : Value} {n come : Nat} {num low : Nat → Nat} {A : List Stp} {p : Stp} {opn : List Nat} {fs : List (List Nat × Value)} (h : Sr w H sb mk outf wv ov fv n come num low (A ++ [p]) opn fs) :
    ∃ gw cw, wv = .slice (some ⟨gw, 0, none⟩) (A.length + 1) cw ∧ A.length + 1 ≤ cw ∧ cw ≤ maxLen ∧ H ≤ gw ∧ w.cell? ⟨gw, A.length * 2, none⟩ = some (.int .i64 (p.1.1 : Int)) ∧ w.cell? ⟨gw, A.length * 2 + 1, none⟩ = some p.2 ∧ w.frozen? ⟨gw, A.length * 2 + 1, none⟩ = false := by
  have hr := h.wayR
  have hr' := hr
  rw [List.length_append, List.length_singleton] at hr
  rcases hr.2 with ⟨_, hn⟩ | ⟨gw, cw, cur, hv, hB, hh, h1, h2, h3, h4⟩
  · omega
  · obtain ⟨q1, q2⟩ := flat_at A p
    have e1 := hr.cells (g := gw) (by rw [hv]; rfl) _ _ q1
    have e2 := hr.cells (g := gw) (by rw [hv]; rfl) _ _ q2
    rw [Addr.add_lit, Nat.zero_add] at e1 e2
    exact ⟨gw, cw, hv, h1, h2, hB, e1, e2, Lib.frozen_of_heap hh _⟩
theorem Sr.openForm {w : World} {H sb mk : Nat} {outf wv ov fv : Value} {n come : Nat} {num low : Nat → Nat} {ws : List Stp} {opn : List Nat} {fs : List (List Nat × Value)} (h : Sr w H sb mk outf wv ov fv n come num low ws opn fs) (h0 : 0 < opn.length) : ∃ g cap, ov = .slice (some ⟨g, 0, none⟩) opn.length cap := by
  rcases h.opnR.2 with ⟨_, hn⟩ | ⟨g, cap, cur, hv, _⟩
  · omega
  · exact ⟨g, cap, hv⟩
/-- What the walk has at each turn. -/
structure Wk (Wb w : World) (sb mk gb lb : Nat) (n : Nat) (E : Nat → Nat → Bool) (num0 : Nat → Nat) (v : Nat) (wv ov fv : Value) (come : Nat) (num low : Nat → Nat) (ws : List Stp) (opn : List Nat) (fs : List (List Nat × Value)) : Prop where
  sr : Sr w Wb.heap.size sb mk (outF gb lb) wv ov fv n come num low ws opn fs
  tj : Tj E n come num low (ws.map Prod.fst) opn (fs.map Prod.fst)
  go : num v ≠ 0 ∧ ∀ x, num0 x ≠ 0 → num x ≠ 0
  be : Below Wb.heap.size Wb w
theorem map_snoc (A : List Stp) (p : Stp) : (A ++ [p]).map Prod.fst = A.map Prod.fst ++ [p.1] := by simp
section
variable {Wb w w' : World} {sb mk gb lb n : Nat} {E : Nat → Nat → Bool} {num0 : Nat → Nat} {v : Nat} {wv ov fv : Value} {come : Nat} {num low : Nat → Nat} {ws A : List Stp} {opn : List Nat} {fs : List (List Nat × Value)}
theorem Wk.later (h : Wk Wb w sb mk gb lb n E num0 v wv ov fv come num low ws opn fs) (hb : Below w.heap.size w w') : Wk Wb w' sb mk gb lb n E num0 v wv ov fv come num low ws opn fs := ⟨h.sr.later hb, h.tj, h.go, h.be.trans (hb.mono h.be.size)⟩
theorem Sr.topAt {H : Nat} {outf : Value} {p : Stp} {gw cw N : Nat} (h : Sr w H sb mk outf (.slice (some ⟨gw, 0, none⟩) N cw) ov fv n come num low (A ++ [p]) opn fs) : w.cell? ⟨gw, A.length * 2, none⟩ = some (.int .i64 (p.1.1 : Int)) ∧ w.cell? ⟨gw, A.length * 2 + 1, none⟩ = some p.2 ∧ w.frozen? ⟨gw, A.length * 2 + 1, none⟩ = false := by
  obtain ⟨gw', cw', e, _, _, _, h1, h2, h3⟩ := h.top
  injection e with e1 e2 e3
  injection e1 with e1
  injection e1 with e1
  subst e1
  exact ⟨h1, h2, h3⟩
theorem Wk.bounds (h : Wk Wb w sb mk gb lb n E num0 v wv ov fv come num low ws opn fs) (hn : n ≤ 300) : ws.length ≤ 300 ∧ opn.length ≤ 300 ∧ fs.length ≤ 300 := by
  have h1 := h.tj.wayLen
  have h2 := h.tj.opnLen
  have h3 := h.tj.fndLen
  rw [List.length_map] at h1 h3
  omega
theorem Wk.leave {u : Nat} {rv : Value} {gw cw : Nat} (h : Wk Wb w sb mk gb lb n E num0 v (.slice (some ⟨gw, 0, none⟩) (A.length + 1) cw) ov fv come num low (A ++ [((u, []), rv)]) opn fs) (hl : low u < num u) (hs : Sr w' Wb.heap.size sb mk (outF gb lb) (.slice (some ⟨gw, 0, none⟩) A.length cw) ov fv n come num low A opn fs) (hb : Below Wb.heap.size Wb w') :
    Wk Wb w' sb mk gb lb n E num0 v (.slice (some ⟨gw, 0, none⟩) A.length cw) ov fv come num low A opn fs := by
  have ht := h.tj
  rw [map_snoc] at ht
  exact ⟨hs, ht.leave hl, h.go, hb⟩
theorem Wk.close {u : Nat} {rv cv fv' wv' ov' : Value} {O1 O2 : List Nat} (h : Wk Wb w sb mk gb lb n E num0 v wv ov fv come num low (A ++ [((u, []), rv)]) (O1 ++ u :: O2) fs) (hl : ¬ low u < num u) (hN : (u :: O2).Nodup) (hs : Sr w' Wb.heap.size sb mk (outF gb lb) wv' ov' fv' n come (putN num (u :: O2) KK) (putN low (u :: O2) KK) A O1 (fs ++ [(srt (u :: O2), cv)])) (hb : Below Wb.heap.size Wb w') :
    Wk Wb w' sb mk gb lb n E num0 v wv' ov' fv' come (putN num (u :: O2) KK) (putN low (u :: O2) KK) A O1 (fs ++ [(srt (u :: O2), cv)]) ∧ todo n (putN num (u :: O2) KK) (A.map Prod.fst) + 1 = todo n num ((A ++ [((u, []), rv)]).map Prod.fst) := by
  have ht := h.tj
  rw [map_snoc] at ht
  refine ⟨⟨hs, ?_, ⟨put_keeps h.go.1, fun x hx => put_keeps (h.go.2 x hx)⟩, hb⟩, ?_⟩
  · rw [List.map_append]
    exact ht.close hl (srt_pair hN) (fun v => srt_mem _ v)
  · rw [map_snoc, todo_put _ _ (fun x hx => by have := ht.known (List.mem_append_right _ hx); omega)]
    exact todo_leave n num u
theorem Wk.enter {u x : Nat} {t l : List Nat} {rv rv' wv' ov' : Value} (h : Wk Wb w sb mk gb lb n E num0 v wv ov fv come num low (A ++ [((u, x :: t), rv)]) opn fs) (h0 : num x = 0) (hl : l = lst (E x) n) (hs : Sr w' Wb.heap.size sb mk (outF gb lb) wv' ov' fv n (come + 1) (updN num x (come + 1)) (updN low x (come + 1)) (A ++ [((u, x :: t), rv)] ++ [((x, l), rv')]) (opn ++ [x]) fs) (hb : Below Wb.heap.size Wb w') :
    Wk Wb w' sb mk gb lb n E num0 v wv' ov' fv (come + 1) (updN num x (come + 1)) (updN low x (come + 1)) (A ++ [((u, x :: t), rv)] ++ [((x, l), rv')]) (opn ++ [x]) fs ∧ todo n (updN num x (come + 1)) ((A ++ [((u, x :: t), rv)] ++ [((x, l), rv')]).map Prod.fst) + 1 ≤ todo n num ((A ++ [((u, x :: t), rv)]).map Prod.fst) := by
  subst hl
  have ht := h.tj
  rw [map_snoc] at ht
  have hxn := ht.edgeIn
  refine ⟨⟨hs, ?_, ⟨upd_keeps h.go.1 (by omega), fun y hy => upd_keeps (h.go.2 y hy) (by omega)⟩, hb⟩, ?_⟩
  · rw [map_snoc, map_snoc]
    exact ht.enter hxn h0 (.inr ⟨_, u, t, rfl⟩)
  · rw [map_snoc]
    exact todo_enter n come x num _ _ hxn h0 (lst_le _ _)
theorem Wk.lower {u x : Nat} {t : List Nat} {rv rv' : Value} (h : Wk Wb w sb mk gb lb n E num0 v wv ov fv come num low (A ++ [((u, x :: t), rv)]) opn fs) (h0 : num x ≠ 0) (hs : Sr w' Wb.heap.size sb mk (outF gb lb) wv ov fv n come num (updN low u (min (low u) (low x))) (A ++ [((u, t), rv')]) opn fs) (hb : Below Wb.heap.size Wb w') :
    Wk Wb w' sb mk gb lb n E num0 v wv ov fv come num (updN low u (min (low u) (low x))) (A ++ [((u, t), rv')]) opn fs ∧ todo n num ((A ++ [((u, t), rv')]).map Prod.fst) + 1 = todo n num ((A ++ [((u, x :: t), rv)]).map Prod.fst) := by
  have ht := h.tj
  rw [map_snoc] at ht
  refine ⟨⟨hs, ?_, h.go, hb⟩, ?_⟩
  · rw [map_snoc]
    exact ht.lower h0
  · rw [map_snoc, map_snoc]
    exact todo_lower n num u x t
end

set_option maxHeartbeats 16000000 in
set_option maxRecDepth 100000 in
theorem walk_is {Wb w : World} {b n r : Nat} {bk ck : Nat → Nat} {L : Nat → Nat → Nat} {labels : Int} {gb lb : Nat} (hE : Env Wb b n r bk ck L labels gb lb) (hB : Below Wb.heap.size Wb w) {sb mk : Nat} {wv ov fv : Value} {come : Nat} {num0 low0 : Nat → Nat} {fs : List (List Nat × Value)}
    (h : Sr w Wb.heap.size sb mk (outF gb lb) wv ov fv n come num0 low0 [] [] fs) (T : Tj (edge L labels) n come num0 low0 [] [] (fs.map Prod.fst)) (v : Nat) (hv : v < n) (h0 : num0 v = 0) :
    Calls Tryz.prog 71 #[.pointer (some ⟨sb, 0, none⟩), .int .i64 v] w fun e w' => e = .returned (.tuple #[]) ∧ ∃ wv' ov' fv' come' num' low' fs', Wk Wb w' sb mk gb lb n (edge L labels) num0 v wv' ov' fv' come' num' low' [] [] fs' := by
  have hn := hE.graph.bound
  have HE := hid hE
  have EN := hid (enter_is hE hB h v hv (by have := T.come_lt hv h0; omega) (by simp) (by simp))
  have TE := hid (T.enter hv h0 (.inl rfl))
  have hhi := h.high
  clear hE hB h T
  go_enter Tryz.func71, Tryz.ntmps71
  go_wp2_with fail
  go_step3
  go_wp2_with fail
  go_at_call 81
  refine EN.out.mono ?_
  rintro e w1 ⟨rfl, ⟨rv, wv', ov', s1⟩, b1⟩
  have K1 : Hid (Wk Wb w1 sb mk gb lb n (edge L labels) num0 v wv' ov' fv (come + 1) (updN num0 v (come + 1)) (updN low0 v (come + 1)) [((v, lst (edge L labels v) n), rv)] [v] fs) := ⟨s1, TE.out, ⟨by rw [updN_self]; omega, fun x hx => upd_keeps hx (by omega)⟩, b1⟩
  clear s1 b1 EN TE
  go_wp2_with fail
  go_step3
  go_wp2_with fail
  go_loopg [4, 5] (todo n (updN num0 v (come + 1)) [(v, lst (edge L labels v) n)]) (fun g _ _ wr => ∃ wv ov fv come num low ws opn fs, todo n num (ws.map Prod.fst) ≤ g ∧ Aside (Wk Wb wr sb mk gb lb n (edge L labels) num0 v wv ov fv come num low ws opn fs))
  case atStart => exact ⟨_, _, _, _, _, _, _, _, _, Nat.le_refl _, K1.out⟩
  case round =>
    clear K1
    obtain ⟨wv2, ov2, fv2, come2, num2, low2, ws2, opn2, fs2, hg, KX⟩ := hrel
    obtain ⟨hw3, ho3, hf3⟩ := KX.out.bounds hn
    rcases List.eq_nil_or_concat ws2 with rfl | ⟨A, ⟨⟨u, rs⟩, rv2⟩, hA⟩
    · have hop : opn2 = [] := KX.out.tj.closed
      subst hop
      obtain ⟨c0, c1, c2, c3, c4, c5⟩ := KX.out.sr.cells
      obtain ⟨wa, wc, rfl, _⟩ := own_form KX.out.sr.wayR
      clear c0 c1 c2 c4 c5
      go_wp2_with fail
      unfold Exit.noGoto
      dsimp only
      go_end0
      exact ⟨rfl, _, _, _, _, _, _, _, KX.out⟩
    · rw [List.concat_eq_append] at hA
      subst hA
      obtain ⟨gw, cw, rfl, hcw, hcm, hgw, t0, t1, tf⟩ := KX.out.sr.top
      obtain ⟨c0, c1, c2, c3, c4, c5⟩ := KX.out.sr.cells
      clear c0 c1 c2 c4 c5
      rw [List.length_append, List.length_singleton] at hw3
      have hMi : (0 : Int) < (A.length : Int) + 1 := by omega
      have hMb : (A.length : Int) ≤ 300 := by omega
      have hM1 : ((A.length : Int) + 1 - 1) = A.length := by omega
      have hM0 : (0 : Int) ≤ (A.length : Int) := by omega
      obtain ⟨TT, hTT⟩ : ∃ TT, todo n num2 ((A ++ [((u, rs), rv2)]).map Prod.fst) = TT := ⟨_, rfl⟩
      have HTT := hid hTT
      rw [hTT] at hg
      clear hTT
      go_wp2_with fail
      go_quiet (fail)
      have KO : Hid (Wk Wb (wr.drewN nq) sb mk gb lb n (edge L labels) num0 v (.slice (some ⟨gw, 0, none⟩) (A.length + 1) cw) ov2 fv2 come2 num2 low2 (A ++ [((u, rs), rv2)]) opn2 fs2) := KX.out.later (below_drewN (Below.refl _ _) nq)
      clear KX c3 t0 t1 tf
      generalize wr.drewN nq = wo at *
      go_wp2_with fail
      go_loopg [5] TT (fun g2 _ wr => ∃ low rs rv, todo n num2 ((A ++ [((u, rs), rv)]).map Prod.fst) ≤ g2 ∧ todo n num2 ((A ++ [((u, rs), rv)]).map Prod.fst) ≤ TT ∧ Aside (Wk Wb wr sb mk gb lb n (edge L labels) num0 v (.slice (some ⟨gw, 0, none⟩) (A.length + 1) cw) ov2 fv2 come2 num2 low (A ++ [((u, rs), rv)]) opn2 fs2))
      case atStart => exact ⟨low2, rs, rv2, by rw [HTT.out]; exact Nat.le_refl _, by rw [HTT.out]; exact Nat.le_refl _, KO.out⟩
      case round =>
        clear KO HTT
        obtain ⟨low3, rs3, rv3, hg2, hT3, KI⟩ := hrel
        obtain ⟨t0, t1, tf⟩ := KI.out.sr.topAt
        have hr := KI.out.sr.rests ((u, rs3), rv3) (by simp)
        have hun : u < n := by have := KI.out.tj; rw [map_snoc] at this; exact this.topIn.2
        cases rs3 with
        | nil =>
          obtain ⟨ra, rc, hrv⟩ := hr.form
          have e0 : (natI ([] : List Nat)).length = 0 := rfl
          dsimp only at hrv
          rw [e0] at hrv
          subst hrv
          clear hr e0
          by_cases hl : low3 u < num2 u
          · have LV := hid (leave_stay KI.out.be KI.out.sr u hun hl hcw hcm)
            have HTL : todo n num2 (A.map Prod.fst) + 1 = todo n num2 ((A ++ [((u, []), Value.slice ra 0 rc)]).map Prod.fst) := by rw [map_snoc]; exact todo_leave n num2 u
            go_wp2_with fail
            go_at_call 83
            refine LV.out.mono ?_
            rintro e w5 ⟨rfl, s5, b5⟩
            have K5 := hid (KI.out.leave hl s5 b5)
            clear s5 b5 LV KI t0 t1 tf
            go_wp2_with fail
            go_roundg (todo n num2 (A.map Prod.fst))
            · exact ⟨_, _, _, _, _, _, _, _, _, Nat.le_refl _, K5.out⟩
            · omega
          · have htj := KI.out.tj
            rw [map_snoc] at htj
            obtain ⟨O1, O2, hO, hu1, hnd, hlt5⟩ := htj.split htj.topIn.1
            dsimp only at hO hu1 hnd hlt5
            obtain ⟨go5, cap5, hov⟩ := KI.out.sr.openForm (by rw [hO, List.length_append, List.length_cons]; omega)
            subst hO
            subst hov
            have LV := hid (leave_close KI.out.be u KI.out.sr hun hl hcw hcm hu1 hlt5 ho3 hf3)
            have HND := hid hnd
            clear htj hu1 hnd hlt5
            go_wp2_with fail
            go_at_call 83
            refine LV.out.mono ?_
            rintro e w5 ⟨rfl, ⟨cv, fv5, s5⟩, b5⟩
            obtain ⟨k5, td⟩ := KI.out.close hl HND.out s5 b5
            have K5 := hid k5
            clear s5 b5 LV KI t0 t1 tf k5
            go_wp2_with fail
            go_roundg (todo n (putN num2 (u :: O2) KK) (A.map Prod.fst))
            · exact ⟨_, _, _, _, _, _, _, _, _, Nat.le_refl _, K5.out⟩
            · omega
        | cons x t =>
          have hxn : x < n := by have := KI.out.tj; rw [map_snoc] at this; exact this.edgeIn
          rcases hr with ⟨_, hc0⟩ | ⟨gq, off, qc, cur, hq, hPg, hgg, hc1, hc2, hsz, hat⟩
          · cases hc0
          dsimp only at hq
          subst hq
          have e1 : (natI (x :: t)).length = t.length + 1 := by simp [natI]
          rw [e1] at hc1 hat t1
          have cx : wr.cell? ⟨gq, off, none⟩ = some (.int .i64 (x : Int)) := (Lib.cell_of_heap hgg off).trans (hat 0 (by omega))
          unfold maxLen at hc2
          have hqi : (qc : Int) ≤ 9223372036854775807 := by omega
          have hqc : (t.length : Int) + 1 ≤ qc := by omega
          have hl0 : (0 : Int) < (t.length : Int) + 1 := by omega
          have htl : (t.length : Int) ≤ 9223372036854775806 := by omega
          by_cases hk : num2 x = 0
          · have hll := KI.out.tj.knownGo hxn hk
            have KN := hid (known_no KI.out.sr x hxn hk hll)
            have hcm3 := KI.out.tj.come_lt hxn hk
            have EN := hid (enter_is HE.out KI.out.be KI.out.sr x hxn (by omega) (by rw [List.length_append, List.length_singleton]; exact hw3) ho3)
            have HK := hid hk
            have HC0 := hid hc1
            clear hll hcm3 hk hgg hat hc1
            go_wp2_with fail
            go_at_call 70
            refine KN.out.mono ?_
            rintro e w' ⟨rfl, rfl⟩
            go_wp2_with fail
            go_at_call 81
            refine EN.out.mono ?_
            rintro e w5 ⟨rfl, ⟨rv5, wv5, ov5, s5⟩, b5⟩
            obtain ⟨k5, td⟩ := KI.out.enter HK.out rfl s5 b5
            have K5 := hid k5
            clear s5 b5 EN KN KI t0 t1 tf k5 cx
            go_wp2_with fail
            go_roundg (todo n (updN num2 x (come2 + 1)) ((A ++ [((u, x :: t), Value.slice (some ⟨gq, off, none⟩) (natI (x :: t)).length qc)] ++ [((x, lst (edge L labels x) n), rv5)]).map Prod.fst))
            · exact ⟨_, _, _, _, _, _, _, _, _, Nat.le_refl _, K5.out⟩
            · omega
          · have KN := hid (known_yes KI.out.sr x hxn hk)
            have HAT := hid hat
            have HGG := hid hgg
            have HPG := hid hPg
            have HC0 := hid hc1
            have HSZ := hid hsz
            have hat' : Hid (∀ j, j < t.length → cur[off + 1 + j]? = some (.int .i64 ((natI t).getD j 0))) := fun j hj => by
              have := hat (j + 1) (by omega)
              rw [show off + (j + 1) = off + 1 + j from by omega] at this
              simpa [natI] using this
            have e2 : Hid ((natI t).length = t.length) := by show (natI t).length = t.length; simp [natI]
            clear hat hgg hPg
            by_cases h1 : qc = 1
            · subst h1
              have htz : t = [] := List.length_eq_zero_iff.1 (by omega)
              subst htz
              have PN : Hid (Part (OffB Wb.heap.size ov2) wr (.slice (some ⟨gq, off, none⟩) 0 0) (natI [])) := .inr ⟨gq, off, 0, cur, rfl, HPG.out, HGG.out, Nat.le_refl _, by unfold maxLen; omega, by have := HSZ.out; omega, fun j hj => by cases hj⟩
              have S5 := hid (KI.out.sr.setRest PN.out)
              have B5 : Hid (Below Wb.heap.size Wb (wr.setCell ⟨gw, A.length * 2 + 1, none⟩ (.slice (some ⟨gq, off, none⟩) 0 0))) := KI.out.be.setCell hgw _
              obtain ⟨t5, _, _⟩ := S5.out.topAt
              have LW := hid (lower_is S5.out u x hun hxn B5.out.size)
              clear hc1 hsz
              go_wp2_with fail
              go_at_call 70
              refine KN.out.mono ?_
              rintro e w' ⟨rfl, rfl⟩
              go_wp2_with fail
              go_at_call 82
              refine LW.out.mono ?_
              rintro e w6 ⟨rfl, s6, b6⟩
              obtain ⟨k6, td⟩ := KI.out.lower hk s6 (B5.out.trans b6)
              have K6 := hid k6
              clear s6 b6 LW KN KI t0 t1 tf k6 cx t5 S5 B5
              go_wp2_with fail
              go_roundg (todo n num2 ((A ++ [((u, []), Value.slice (some ⟨gq, off, none⟩) 0 0)]).map Prod.fst))
              · exact ⟨_, _, _, Nat.le_refl _, by omega, K6.out⟩
              · omega
            · have PN : Hid (Part (OffB Wb.heap.size ov2) wr (.slice (some ⟨gq, off + 1, none⟩) t.length (qc - 1)) (natI t)) := .inr ⟨gq, off + 1, qc - 1, cur, by rw [e2.out], HPG.out, HGG.out, by rw [e2.out]; omega, by unfold maxLen; omega, by have := HSZ.out; omega, fun j hj => by rw [e2.out] at hj; exact hat'.out j hj⟩
              have S5 := hid (KI.out.sr.setRest PN.out)
              have B5 : Hid (Below Wb.heap.size Wb (wr.setCell ⟨gw, A.length * 2 + 1, none⟩ (.slice (some ⟨gq, off + 1, none⟩) t.length (qc - 1)))) := KI.out.be.setCell hgw _
              obtain ⟨t5, _, _⟩ := S5.out.topAt
              have LW := hid (lower_is S5.out u x hun hxn B5.out.size)
              clear hc1 hsz
              go_wp2_with fail
              go_at_call 70
              refine KN.out.mono ?_
              rintro e w' ⟨rfl, rfl⟩
              go_wp2_with fail
              go_at_call 82
              refine LW.out.mono ?_
              rintro e w6 ⟨rfl, s6, b6⟩
              obtain ⟨k6, td⟩ := KI.out.lower hk s6 (B5.out.trans b6)
              have K6 := hid k6
              clear s6 b6 LW KN KI t0 t1 tf k6 cx t5 S5 B5
              go_wp2_with fail
              go_roundg (todo n num2 ((A ++ [((u, t), Value.slice (some ⟨gq, off + 1, none⟩) t.length (qc - 1))]).map Prod.fst))
              · exact ⟨_, _, _, Nat.le_refl _, by omega, K6.out⟩
              · omega
end Go.Proofs.YtdihbeffomibeaaGreatDoor
namespace Go.Proofs.YtdihbeffomibeaaGreatDoor
set_option linter.unusedVariables false
set_option linter.unusedSimpArgs false
open Go.RowKit

def cmpI (a b : Int) : Int := if a < b then -1 else if b < a then 1 else 0
theorem nan_is (x : Int) (w : World) : Calls Tryz.prog 104 #[.int .i64 x] w fun e w' => e = .returned (.bool false) ∧ w = w' := by
  have hx : (x != x) = false := by simp
  go_enter Tryz.func104, Tryz.ntmps104
  go_wp2
  go_ret
  exact ⟨rfl, rfl⟩
set_option maxHeartbeats 2000000 in
theorem ccmp_is (x y : Int) (w : World) : Calls Tryz.prog 86 #[.int .i64 x, .int .i64 y] w fun e w' => e = .returned (.int .i64 (cmpI x y)) ∧ w = w' := by
  unfold cmpI
  by_cases h1 : x < y
  · rw [if_pos h1]
    go_enter Tryz.func86, Tryz.ntmps86
    go_wp2_with (go_at_call 104; refine (nan_is _ _).mono ?_; rintro e w' ⟨rfl, rfl⟩)
    go_ret
    exact ⟨rfl, rfl⟩
  · rw [if_neg h1]
    by_cases h2 : y < x
    · rw [if_pos h2]
      have h3 : x > y := h2
      go_enter Tryz.func86, Tryz.ntmps86
      go_wp2_with (go_at_call 104; refine (nan_is _ _).mono ?_; rintro e w' ⟨rfl, rfl⟩)
      go_ret
      exact ⟨rfl, rfl⟩
    · rw [if_neg h2]
      go_enter Tryz.func86, Tryz.ntmps86
      go_wp2_with (go_at_call 104; refine (nan_is _ _).mono ?_; rintro e w' ⟨rfl, rfl⟩)
      go_ret
      exact ⟨rfl, rfl⟩
/-- Numbers from an address on. -/
def CellsI (w : World) (g off : Nat) (l : List Int) : Prop := ∀ j, j < l.length → w.cell? ⟨g, off + j, none⟩ = some (.int .i64 (l.getD j 0))
set_option maxHeartbeats 4000000 in
set_option maxRecDepth 100000 in
theorem compare_heads (g1 o1 m1 c1 g2 o2 m2 c2 : Nat) (x y : Int) (w : World) (h1 : w.cell? ⟨g1, o1, none⟩ = some (.int .i64 x)) (h2 : w.cell? ⟨g2, o2, none⟩ = some (.int .i64 y)) (hxy : x ≠ y) (hm1 : m1 ≤ 1000) (hm2 : m2 ≤ 1000) :
    Calls Tryz.prog 73 #[.slice (some ⟨g1, o1, none⟩) (m1 + 1) c1, .slice (some ⟨g2, o2, none⟩) (m2 + 1) c2] w fun e w' => e = .returned (.int .i64 (cmpI x y)) ∧ w = w' := by
  have hne : ¬ cmpI x y = 0 := by unfold cmpI; by_cases q1 : x < y <;> by_cases q2 : y < x <;> simp [q1, q2] <;> omega
  have hneb : (cmpI x y != 0) = true := by simpa using hne
  have CC := hid (ccmp_is x y w)
  have i1 : (m1 : Int) ≤ 1000 := by omega
  have i2 : (m2 : Int) ≤ 1000 := by omega
  have i3 : (0 : Int) < (m1 : Int) + 1 := by omega
  have i4 : ¬ (0 : Int) ≥ (m2 : Int) + 1 := by omega
  have i5 : (0 : Int) < (m2 : Int) + 1 := by omega
  clear hxy hm1 hm2
  generalize cmpI x y = z at *
  go_enter Tryz.func73, Tryz.ntmps73
  go_wp2_with fail
  refine wp_loop_rounds 1 ?_
  rw [rounds_succ]
  go_wp2_with (go_at_call 86; refine CC.out.mono ?_; rintro e w' ⟨rfl, rfl⟩)
  go_ret
  exact ⟨rfl, rfl⟩
set_option maxHeartbeats 4000000 in
set_option maxRecDepth 100000 in
theorem compare_same (g o c : Nat) (l : List Int) (w : World) (h : CellsI w g o l) (hl : l.length ≤ 1000) :
    Calls Tryz.prog 73 #[.slice (some ⟨g, o, none⟩) l.length c, .slice (some ⟨g, o, none⟩) l.length c] w fun e w' => e = .returned (.int .i64 0) ∧ w = w' := by
  have H := hid h
  have hli : (l.length : Int) ≤ 1000 := by omega
  clear h
  go_enter Tryz.func73, Tryz.ntmps73
  go_wp2_with fail
  go_loopg [11] l.length (fun gg i wr => ∃ k : Nat, k ≤ l.length ∧ l.length - k ≤ gg ∧ i = .int .i64 k ∧ w = wr)
  case atStart => exact ⟨0, Nat.zero_le _, by omega, rfl, rfl⟩
  case round =>
    obtain ⟨k, hk, hg, rfl, rfl⟩ := hrel
    by_cases hlt : k < l.length
    · have hlti : (k : Int) < l.length := by omega
      have hk0 : (0 : Int) ≤ k := by omega
      have hge : ¬ (k : Int) ≥ l.length := by omega
      have ck := H.out k hlt
      have hz : cmpI (l.getD k 0) (l.getD k 0) = 0 := by unfold cmpI; rw [if_neg (by omega), if_neg (by omega)]
      have CC := ccmp_is (l.getD k 0) (l.getD k 0) w
      rw [hz] at CC
      have CH := hid CC
      clear CC hz
      generalize l.getD k 0 = x at *
      go_wp2_with (go_at_call 86; refine CH.out.mono ?_; rintro e w' ⟨rfl, rfl⟩)
      go_roundg (l.length - (k + 1))
      · exact ⟨k + 1, by omega, by omega, by go_num, rfl⟩
      · omega
    · have hlti : ¬ (k : Int) < l.length := by omega
      have hll : ¬ (l.length : Int) < l.length := by omega
      go_wp2_with fail
      go_ret
      exact ⟨rfl, rfl⟩
end Go.Proofs.YtdihbeffomibeaaGreatDoor
