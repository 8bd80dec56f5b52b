/-
  The law's own walk: blanks ahead of a text.
-/
import Derived.Test.YtodbpplgpaokjaaDoorBlanks
namespace Go.Proofs.YtodbpplgpaokjaaDoor
set_option linter.unusedVariables false
set_option linter.unusedSimpArgs false
open Go.RowKit Go.Lib

set_option maxHeartbeats 2000000 in
set_option maxRecDepth 100000 in
theorem blanks_walk (s : ByteArray) (k : Int) (hs : s.size ≤ 140737488355328) (w : World) (te : TypeId) (pe : Value) (hv : w.cell? ⟨4, 0, none⟩ = some (.iface te pe)) :
    Calls Tryd.prog 6 #[.string s, .int .i64 k] w fun e w' => e = .returned (.bool true) ∧ Below w.heap.size w w' := by
  have h4 : 4 < w.heap.size := World.block_lt_of_cell? _ _ hv
  have HV := hid hv
  clear hv
  obtain ⟨c, hc, hc4⟩ := count_small k
  go_enter Tryd.func6, Tryd.ntmps6
  go_wp2_with fail
  rw [hc]
  have R := Tryd.strings_Repeat ⟨#[32]⟩ c w (by omega) (by show 1 * c ≤ _; omega)
  refine R.mono ?_
  clear R
  rintro e w0 ⟨rfl, b0⟩
  obtain ⟨hp, hbl⟩ := blanks_are c
  rw [show (⟨#[32]⟩ : ByteArray).data.toList = [32] from rfl]
  have hadd : ∀ wx, (Op.stringOp .add ⟨(repeatL [32] c).toArray⟩ s).run Tryd.prog wx = .ok (.string (⟨(repeatL [32] c).toArray⟩ ++ s)) wx := fun wx => run_string_add_sum wx _ _ (by rw [hp]; omega)
  generalize hP : (⟨(repeatL [32] c).toArray⟩ : ByteArray) = P at hp hbl hadd
  clear hP
  have HBL := hid hbl
  clear hbl
  have B0 := hid b0
  clear b0
  have hv0 : w0.cell? ⟨4, 0, none⟩ = some (.iface te pe) := (B0.out.cell (p := ⟨4, 0, none⟩) h4).trans HV.out
  have HV0 := hid hv0
  clear hv0
  go_wp2_with fail
  refine (scan_any s w0 te pe HV0.out).mono ?_
  rintro e w1 ⟨p1, b1⟩
  obtain ⟨a1, n1, c1, er1, rfl, f1⟩ := p1.gen
  have B1 : Hid (Below w.heap.size w w1) := B0.out.trans (b1.mono B0.out.size)
  have F1 := hid f1
  clear p1 b1 f1
  have hv1 : w1.cell? ⟨4, 0, none⟩ = some (.iface te pe) := (B1.out.cell (p := ⟨4, 0, none⟩) h4).trans HV.out
  have HV1 := hid hv1
  clear hv1
  go_wp2_with fail
  refine (scan_any (P ++ s) w1 te pe HV1.out).mono ?_
  rintro e w2 ⟨p2, b2⟩
  obtain ⟨a2, n2, c2, er2, rfl, f2⟩ := p2.gen
  have B2 : Hid (Below w.heap.size w w2) := B1.out.trans (b2.mono B1.out.size)
  have F12 := hid (F1.out.later b2)
  have F2 := hid f2
  clear p2 b2 f2
  go_wp2_with fail
  refine (refScan_any s w2).mono ?_
  rintro e w3 ⟨p3, b3⟩
  obtain ⟨a3, n3, c3, x3, y3, rfl, f3⟩ := p3.gen
  have B3 : Hid (Below w.heap.size w w3) := B2.out.trans (b3.mono B2.out.size)
  have F13 := hid (F12.out.later b3)
  have F23 := hid (F2.out.later b3)
  have F3 := hid f3
  clear p3 b3 f3
  by_cases hbig : 20000 < P.size + s.size
  · have hb1 : (20000 : Int) < (P.size : Int) + (s.size : Int) := by omega
    have e2 : scanM (P ++ s) = .error (0, 4) := by unfold scanM; rw [if_pos (by rw [ByteArray.size_append]; exact hbig)]
    have f := F23.out
    rw [e2] at f
    obtain ⟨hv2, rfl⟩ := f
    cases hv2
    go_wp2_with fail
    refine (is_fault _ _ _).mono ?_
    rintro e w4 ⟨rfl, b4⟩
    have B4 : Hid (Below w.heap.size w w4) := B3.out.trans (b4.mono B3.out.size)
    clear b4
    go_wp2_with fail
    go_ret
    exact ⟨rfl, B4.out⟩
  · have hb1 : ¬ (20000 : Int) < (P.size : Int) + (s.size : Int) := by omega
    have e2 : scanM (P ++ s) = shR P.size (scanM s) := scanM_blanks HBL.out (by omega)
    have f := F23.out
    rw [e2] at f
    cases hS : scanM s with
    | ok l =>
      have f1 := F13.out
      have f3 := F3.out
      rw [hS] at f f1 f3
      obtain ⟨rfl, t1⟩ := f1
      obtain ⟨rfl, rfl, t3⟩ := f3
      obtain ⟨rfl, t2⟩ := f
      have T1 := hid t1
      have T2 := hid t2
      have T3 := hid t3
      clear t1 t2 t3 hS e2 F1 F12 F13 F2 F23 F3
      go_wp2_with fail
      refine (is_nil _).mono ?_
      rintro e w4 ⟨rfl, b4⟩
      have B4 : Hid (Below w.heap.size w w4) := B3.out.trans (b4.mono B3.out.size)
      have T14 := hid (T1.out.later (T := Any) b4 (fun _ _ _ => trivial))
      have T24 := hid (T2.out.later (T := Any) b4 (fun _ _ _ => trivial))
      have T34 := hid (T3.out.later (T := Any) b4 (fun _ _ _ => trivial))
      clear b4
      go_wp2_with fail
      refine (equalToks_any _ _ l l _ T14.out T34.out).mono ?_
      rintro e w5 ⟨rfl, b5⟩
      rw [toksEq_refl]
      have B5 : Hid (Below w.heap.size w w5) := B4.out.trans (b5.mono B4.out.size)
      have T15 := hid (T14.out.later (T := Any) b5 (fun _ _ _ => trivial))
      have T25 := hid (T24.out.later (T := Any) b5 (fun _ _ _ => trivial))
      clear b5
      go_wp2_with fail
      refine (bare_any _ l _ T15.out).mono ?_
      rintro e w6 ⟨v6, rfl, t6, b6⟩
      have B6 : Hid (Below w.heap.size w w6) := B5.out.trans (b6.mono B5.out.size)
      have T26 := hid (T25.out.later (T := Any) b6 (fun _ _ _ => trivial))
      obtain ⟨a6, c6, rfl, -⟩ := id t6
      rw [List.length_map] at t6 ⊢
      have T6 := hid t6
      clear b6 t6
      go_wp2_with fail
      refine (bare_any _ _ _ T26.out).mono ?_
      rintro e w7 ⟨v7, rfl, t7, b7⟩
      have B7 : Hid (Below w.heap.size w w7) := B6.out.trans (b7.mono B6.out.size)
      have T67 := hid (T6.out.later (T := Any) b7 (fun _ _ _ => trivial))
      rw [bare_shift] at t7
      obtain ⟨a7, c7, rfl, -⟩ := id t7
      rw [List.length_map] at t7 ⊢
      have T7 := hid t7
      clear b7 t7
      go_wp2_with fail
      refine (equalToks_any _ _ _ _ _ T67.out T7.out).mono ?_
      rintro e w8 ⟨rfl, b8⟩
      rw [toksEq_refl]
      have B8 : Hid (Below w.heap.size w w8) := B7.out.trans (b8.mono B7.out.size)
      clear b8
      go_wp2_with fail
      go_ret
      exact ⟨rfl, B8.out⟩
    | error q =>
      obtain ⟨a, y⟩ := q
      obtain ⟨ha, hy⟩ := scanM_err hS
      have f1 := F13.out
      have f3 := F3.out
      rw [hS] at f f1 f3
      obtain ⟨hq1, rfl⟩ := f1
      obtain ⟨hq3, rfl, rfl⟩ := f3
      obtain ⟨hq2, rfl⟩ := f
      cases hq1
      cases hq2
      cases hq3
      clear hS e2 F1 F12 F13 F2 F23 F3
      go_wp2_with fail
      refine (is_fault _ _ _).mono ?_
      rintro e w4 ⟨rfl, b4⟩
      have B4 : Hid (Below w.heap.size w w4) := B3.out.trans (b4.mono B3.out.size)
      clear b4
      have hnil : ToksIn Any w4 (.slice none 0 0) [] := ⟨none, 0, rfl, by simp, fun h => by simp at h⟩
      have HNIL := hid hnil
      clear hnil
      go_wp2_with fail
      refine (equalToks_any _ _ [] [] _ HNIL.out HNIL.out).mono ?_
      rintro e w5 ⟨rfl, b5⟩
      rw [toksEq_refl]
      have B5 : Hid (Below w.heap.size w w5) := B4.out.trans (b5.mono B4.out.size)
      clear b5
      go_wp2_with fail
      rw [Int.add_comm (a : Int) (c : Int)]
      refine (is_fault _ _ _).mono ?_
      rintro e w6 ⟨rfl, b6⟩
      have B6 : Hid (Below w.heap.size w w6) := B5.out.trans (b6.mono B5.out.size)
      clear b6
      go_wp2_with fail
      go_ret
      exact ⟨rfl, B6.out⟩
end Go.Proofs.YtodbpplgpaokjaaDoor
