/-
  The law's own walk: where tokens stand.
-/
import Derived.Test.YtodbpplgpaokjaaDoorPlaces
import Derived.Deep.RegionHeld3
namespace Go.Proofs.YtodbpplgpaokjaaDoor
set_option linter.unusedVariables false
set_option linter.unusedSimpArgs false
open Go.RowKit Go.Lib

theorem good_drop {s : ByteArray} {l : List MTok} {k e : Nat} (hk : k < l.length) (h : Good s e (l.drop k)) : ∃ i q : Nat, (l.getD k default).2.1 = (i : Int) ∧ e ≤ i ∧ i < q ∧ q ≤ s.size ∧ (l.getD k default).2.2.1 = s.extract i q ∧ Blk s e i ∧ Good s q (l.drop (k + 1)) := by
  rw [List.drop_eq_getElem_cons hk] at h
  have e1 : l.getD k default = l[k] := by simp [List.getD, List.getElem?_eq_getElem hk]
  rw [e1]
  exact h
theorem good_end {s : ByteArray} {l : List MTok} {k e : Nat} (hk : ¬ k < l.length) (h : Good s e (l.drop k)) : e ≤ s.size ∧ Blk s e s.size := by
  rw [List.drop_eq_nil_of_le (by omega)] at h
  exact h

theorem text_some {s : ByteArray} {i q : Nat} (h1 : i < q) (h2 : q ≤ s.size) : ¬ (s.extract i q).toList = [] := by
  intro h
  rw [ByteArray.toList_eq] at h
  have hz : (s.extract i q).size = q - i := by rw [ByteArray.size_extract]; omega
  have hc : (s.extract i q).data.toList.length = 0 := by rw [h]; rfl
  rw [Array.length_toList] at hc
  have : (s.extract i q).data.size = (s.extract i q).size := rfl
  omega

set_option maxHeartbeats 4000000 in
set_option maxRecDepth 100000 in
theorem places_ok (s : ByteArray) (w : World) (l : List MTok) (hS : scanM s = .ok l) (te : TypeId) (pe : Value) (hv : w.cell? ⟨4, 0, none⟩ = some (.iface te pe)) :
    Calls Tryd.prog 8 #[.string s] w fun e w' => e = .returned (.bool true) ∧ Below w.heap.size w w' := by
  obtain ⟨hs, hg0⟩ := scanM_places hS
  have HG0 := hid hg0
  have h9 := scan_any s w te pe hv
  have h10 := refScan_any s
  rw [hS] at h9 h10
  have H9 := hid h9
  have H10 := hid h10
  clear h9 h10 hS hv hg0
  go_enter Tryd.func8, Tryd.ntmps8
  go_wp2_with fail
  refine H9.out.mono ?_
  rintro e w1 ⟨⟨v1, rfl, t1⟩, b1⟩
  have B1 := hid b1
  have T1 := hid t1
  obtain ⟨a1, c1, rfl, -⟩ := id t1
  clear b1 t1
  go_wp2_with fail
  refine (H10.out w1).mono ?_
  rintro e w2 ⟨⟨v2, rfl, t2⟩, b2⟩
  have B2 : Hid (Below w.heap.size w w2) := B1.out.trans (b2.mono B1.out.size)
  have T12 : Hid (ToksIn Any w2 _ l) := T1.out.later b2 (fun _ _ _ => trivial)
  obtain ⟨a2, c2, rfl, -⟩ := id t2
  clear b2 t2
  have hll : (((l.length : Nat) : Int) != ((l.length : Nat) : Int)) = false := by simp
  go_wp2_with fail
  refine (is_nil _).mono ?_
  rintro e w3 ⟨rfl, b3⟩
  have T13 : Hid (ToksIn Any w3 _ l) := T12.out.later b3 (fun _ _ _ => trivial)
  have B3 : Hid (Below w.heap.size w w3) := B2.out.trans (b3.mono B2.out.size)
  clear b3
  go_wp2_with fail
  go_loopg [8, 36] l.length (fun g ve i wr => ∃ k e : Nat, k ≤ l.length ∧ l.length - k ≤ g ∧ i = .int .i64 k ∧ ve = .int .i64 e ∧ e ≤ s.size ∧ Aside (Good s e (l.drop k)) ∧ Aside (Below w.heap.size w wr) ∧ Aside (Below w3.heap.size w3 wr))
  case atStart => exact ⟨0, 0, Nat.zero_le _, by omega, rfl, rfl, Nat.zero_le _, by rw [List.drop_zero]; exact HG0.out, B3.out, Below.refl _ _⟩
  case round =>
    obtain ⟨k, e, hk, hg, rfl, rfl, hes, G, B, D⟩ := hrel
    by_cases hlt : k < l.length
    · have hlti : (k : Int) < (l.length : Int) := by omega
      have t4 := T13.out.later (T := Any) D.out (fun _ _ _ => trivial)
      obtain ⟨ao, c, hsl, _, hc⟩ := RowsIn.cells t4 (by omega)
      cases hsl
      obtain ⟨bb, oo, cs, rfl, hbb, _, e1, k1⟩ := hc k hlt
      clear hc t4
      unfold TokRow at e1
      subst e1
      obtain ⟨i, q, g1, g2, g3, g4, g5, g6, g7⟩ := good_drop hlt G.out
      have d0 : wr.cell? ⟨bb, oo + k * 4, none⟩ = _ := k1 0 _ rfl
      have d1 := k1 1 _ rfl
      have d2 := k1 2 _ rfl
      have d3 := k1 3 _ rfl
      clear k1
      rw [g1] at d1
      rw [g5] at d2
      generalize (l.getD k default).1 = x0 at *
      generalize (l.getD k default).2.2.2 = x3 at *
      clear g1 g5
      have G6 := hid g6
      have G7 := hid g7
      clear g6 g7
      have hii : ¬ (i : Int) < (e : Int) := by omega
      have hiN : ¬ i < e := by omega
      have hi0 : (0 : Int) ≤ (i : Int) := by omega
      have his : (i : Int) ≤ (s.size : Int) := by omega
      have hei : (e : Int) ≤ (i : Int) := by omega
      have hne : ¬ (s.extract i q).toList = [] := text_some g3 g4
      have hne2 : ((s.extract i q).toList == []) = false := by simpa using hne
      have hne3 : (s.extract i q).toList.isEmpty = false := by simpa using hne
      have he0 : (0 : Int) ≤ (e : Int) := by omega
      have PW := fun W => pre_walk s i q (by omega) g4 W
      have TW := fun W => trim_walk s e i (by omega) hs G6.out W
      go_wp2_with fail
      go_region_held3 (fun w' => w'.cell? ⟨wr.heap.size, 1, none⟩ = some (.int .i64 i) ∧ w'.cell? ⟨wr.heap.size, 2, none⟩ = some (.string (s.extract i q))) (go_keep) (first | (go_at_call 19; refine (PW _).mono ?_; rintro ee w' ⟨rfl, n1, rfl⟩) | (go_at_call 20; refine (TW _).mono ?_; rintro ee w' ⟨rfl, n2, rfl⟩))
      clear PW TW
      have hsz : (s.extract i q).size = q - i := by rw [ByteArray.size_extract]; omega
      go_wp2_with fail
      go_roundg (l.length - (k + 1))
      case measure => omega
      case rel =>
        refine ⟨k + 1, q, by omega, by omega, by go_num, ?_, g4, G7.out, ?_, ?_⟩
        · rw [show (i : Int) + ((q - i : Nat) : Int) = (q : Int) by omega]
        · exact below_drewN (B.out.alloc B.out.size _) _
        · exact below_drewN (D.out.alloc D.out.size _) _
    · obtain ⟨he1, he2⟩ := good_end hlt G.out
      have TW := fun W => trim_walk s e s.size (Nat.le_refl _) hs he2 W
      have he0 : (0 : Int) ≤ (e : Int) := by omega
      have hes' : (e : Int) ≤ (s.size : Int) := by omega
      go_wp2_with fail
      refine (TW _).mono ?_
      rintro ee w' ⟨rfl, n2, rfl⟩
      go_wp2_with fail
      go_ret
      exact ⟨rfl, below_drewN B.out _⟩

set_option maxHeartbeats 1000000 in
theorem places_err (s : ByteArray) (w : World) (a y : Nat) (hS : scanM s = .error (a, y)) (te : TypeId) (pe : Value) (hv : w.cell? ⟨4, 0, none⟩ = some (.iface te pe)) :
    Calls Tryd.prog 8 #[.string s] w fun e w' => e = .returned (.bool true) ∧ Below w.heap.size w w' := by
  obtain ⟨ha, hy⟩ := scanM_err hS
  have h9 := scan_any s w te pe hv
  have h10 := refScan_any s
  rw [hS] at h9 h10
  have H9 := hid h9
  have H10 := hid h10
  clear h9 h10 hS hv
  go_enter Tryd.func8, Tryd.ntmps8
  go_wp2_with fail
  refine H9.out.mono ?_
  rintro e w1 ⟨he, b1⟩
  simp only [ScanPost] at he
  subst he
  have B1 := hid b1
  clear b1
  go_wp2_with fail
  refine (H10.out w1).mono ?_
  rintro e w2 ⟨he, b2⟩
  simp only [RefPost] at he
  subst he
  have B2 : Hid (Below w.heap.size w w2) := B1.out.trans (b2.mono B1.out.size)
  clear b2
  go_wp2_with fail
  refine (is_fault _ _ _).mono ?_
  rintro e w3 ⟨rfl, b3⟩
  have B3 : Hid (Below w.heap.size w w3) := B2.out.trans (b3.mono B2.out.size)
  clear b3
  go_wp2_with fail
  go_loopg [8, 36] 0 (fun g ve i wr => i = .int .i64 0 ∧ ve = .int .i64 0 ∧ Aside (Below w.heap.size w wr))
  case atStart => exact ⟨rfl, rfl, B3.out⟩
  case round =>
    obtain ⟨rfl, rfl, B⟩ := hrel
    go_wp2_with fail
    go_ret
    exact ⟨rfl, B.out⟩

/-- The law's own walk. -/
theorem places_walk (s : ByteArray) (w : World) (te : TypeId) (pe : Value) (hv : w.cell? ⟨4, 0, none⟩ = some (.iface te pe)) :
    Calls Tryd.prog 8 #[.string s] w fun e w' => e = .returned (.bool true) ∧ Below w.heap.size w w' := by
  cases hS : scanM s with
  | ok l => exact places_ok s w l hS te pe hv
  | error q => exact places_err s w q.1 q.2 hS te pe hv
end Go.Proofs.YtodbpplgpaokjaaDoor
