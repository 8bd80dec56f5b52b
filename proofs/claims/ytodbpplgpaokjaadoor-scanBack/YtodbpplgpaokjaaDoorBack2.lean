/-
  The law's own walk: what is scanned, printed, and scanned again.
-/
import Derived.Test.YtodbpplgpaokjaaDoorPrint2
import Derived.Test.YtodbpplgpaokjaaDoorPlaces
namespace Go.Proofs.YtodbpplgpaokjaaDoor
set_option linter.unusedVariables false
set_option linter.unusedSimpArgs false
open Go.RowKit Go.Lib

theorem scan_toks {p : ByteArray} {l : List MTok} (h : ∀ t ∈ l, TokOk t) (hp : p.data.toList = printL false l) (hsz : p.size ≤ 20000) :
    ∃ l', scanM p = .ok l' ∧ l'.map bareT = l.map bareT := by
  rw [scanM_left hsz]
  obtain ⟨l', e1, e2⟩ := left_again l false 0 [] h (by rw [List.drop_zero]; exact hp)
  exact ⟨l', by simpa using e1, e2⟩

theorem sep_len (il : Bool) : (sep il).length ≤ 1 := by cases il <;> decide

/-- A text's tokens are not much longer, printed. -/
theorem print_len {s : ByteArray} : ∀ (l : List MTok) (il : Bool) (e : Nat), Good s e l → (∀ t ∈ l, TokOk t) → (printL il l).length ≤ 2 * (s.size - e)
  | [], _, _, _, _ => by simp [printL]
  | t :: l, il, e, ⟨i, k, h1, h2, h3, h4, h5, h6, hg⟩, hok => by
    have htk := hok t (by simp)
    have hl : ∀ x ∈ l, TokOk x := fun x hx => hok x (by simp [hx])
    have htx : (tx t).length = k - i := by
      show (t.2.2.1).data.toList.length = _
      rw [h5, Array.length_toList]
      have : (s.extract i k).data.size = (s.extract i k).size := rfl
      rw [this, ByteArray.size_extract]; omega
    by_cases h4' : t.1 = 4
    · have := print_len l false k hg hl
      rw [printL, if_neg (by omega), if_neg (by omega), if_pos h4', List.length_cons]
      omega
    · have := print_len l true k hg hl
      have hs := sep_len il
      rw [printL_word htk h4', List.length_append, List.length_append]
      omega

theorem nums_ok {l : List MTok} (h : ∀ t ∈ l, TokOk t) : NumsOk l := fun t ht e => by
  rcases h t ht with ⟨e1, _⟩ | ⟨_, a, b, _⟩ | ⟨e1, _⟩ | ⟨e1, _⟩
  · omega
  · exact ⟨a, b⟩
  · omega
  · omega

/-- What the code's Scan and the reference's hand out is alike. -/
theorem both {s : ByteArray} {w : World} {v1 v3 er : Value} {x y : Int} (f1 : SFact (scanM s) w v1 er) (f3 : RFact (scanM s) w v3 x y) :
    ∃ L, (∀ t ∈ L, TokOk t) ∧ ToksIn Any w v1 L ∧ ToksIn Any w v3 L ∧ (printL false L).length ≤ 140737488355328 ∧ ∀ W, Calls Tryd.prog 11 #[er, .int .i64 x, .int .i64 y] W fun e w' => e = .returned (.bool true) ∧ Below W.heap.size W w' := by
  cases hS : scanM s with
  | ok l =>
    rw [hS] at f1 f3
    obtain ⟨rfl, t1⟩ := f1
    obtain ⟨rfl, rfl, t3⟩ := f3
    obtain ⟨hs, hg⟩ := scanM_places hS
    exact ⟨l, scanM_form hS, t1, t3, by have := print_len l false 0 hg (scanM_form hS); omega, fun W => is_nil W⟩
  | error q =>
    obtain ⟨a, b⟩ := q
    rw [hS] at f1 f3
    obtain ⟨rfl, rfl⟩ := f1
    obtain ⟨rfl, rfl, rfl⟩ := f3
    have hnil : ToksIn Any w (.slice none 0 0) [] := ⟨none, 0, rfl, by simp, fun h => by simp at h⟩
    exact ⟨[], fun t ht => (List.not_mem_nil ht).elim, hnil, hnil, Nat.zero_le _, fun W => is_fault _ _ W⟩

set_option maxHeartbeats 2000000 in
set_option maxRecDepth 100000 in
theorem back_walk (s : ByteArray) (w : World) (te : TypeId) (pe : Value) (hv : w.cell? ⟨4, 0, none⟩ = some (.iface te pe)) (htab : Pow10 w) :
    Calls Tryd.prog 5 #[.string s] w fun e w' => e = .returned (.bool true) ∧ Below w.heap.size w w' := by
  have h4 : 4 < w.heap.size := World.block_lt_of_cell? _ _ hv
  have HV := hid hv
  have HT : Hid (Lib.TabBelow Tryd.prog w.heap.size w "internal/strconv.uint64pow10" .u64 Lib.pow10Tab) := Lib.tabBelow_of_tabIs htab
  clear hv htab
  go_enter Tryd.func5, Tryd.ntmps5
  go_wp2_with fail
  refine (scan_any s w te pe HV.out).mono ?_
  rintro e w1 ⟨p1, b1⟩
  obtain ⟨a1, n1, c1, er1, rfl, f1⟩ := p1.gen
  have B1 := hid b1
  have F1 := hid f1
  clear p1 b1 f1
  go_wp2_with fail
  refine (refScan_any s w1).mono ?_
  rintro e w3 ⟨p3, b3⟩
  obtain ⟨a3, n3, c3, x3, y3, rfl, f3⟩ := p3.gen
  have B3 : Hid (Below w.heap.size w w3) := B1.out.trans (b3.mono B1.out.size)
  obtain ⟨L, hok, t1, t3, hP, hIs⟩ := both (F1.out.later b3) f3
  have HOK := hid hok
  have T1 := hid t1
  have T3 := hid t3
  have HP := hid hP
  obtain ⟨_, _, hsl1, -⟩ := id t1
  cases hsl1
  obtain ⟨_, _, hsl3, -⟩ := id t3
  cases hsl3
  clear p3 b3 f3 hok t1 t3 hP F1
  go_wp2_with fail
  refine (hIs _).mono ?_
  rintro e w4 ⟨rfl, b4⟩
  have B4 : Hid (Below w.heap.size w w4) := B3.out.trans (b4.mono B3.out.size)
  have T14 := hid (T1.out.later (T := Any) b4 (fun _ _ _ => trivial))
  have T34 := hid (T3.out.later (T := Any) b4 (fun _ _ _ => trivial))
  clear b4 hIs
  go_wp2_with fail
  refine (equalToks_any _ _ L L _ T14.out T34.out).mono ?_
  rintro e w5 ⟨rfl, b5⟩
  rw [toksEq_refl]
  have B5 : Hid (Below w.heap.size w w5) := B4.out.trans (b5.mono B4.out.size)
  have T15 := hid (T14.out.later (T := Any) b5 (fun _ _ _ => trivial))
  clear b5
  go_wp2_with fail
  refine (print_any _ L _ T15.out (HT.out _ B5.out) (nums_ok HOK.out) HP.out).mono ?_
  rintro e w6 ⟨rfl, b6⟩
  have B6 : Hid (Below w.heap.size w w6) := B5.out.trans (b6.mono B5.out.size)
  have T16 := hid (T15.out.later (T := Any) b6 (fun _ _ _ => trivial))
  clear b6
  have hpt : (⟨(printL false L).toArray⟩ : ByteArray).data.toList = printL false L := rfl
  have RP : ∀ (v : Value) (W : World), ToksIn Any W v L → Calls Tryd.prog 15 #[v] W fun e w' => e = .returned (.string ⟨(printL false L).toArray⟩) ∧ Below W.heap.size W w' := fun v W h => refPrint_any v L W h (nums_ok HOK.out) HP.out
  generalize (⟨(printL false L).toArray⟩ : ByteArray) = p at hpt RP ⊢
  have HPT := hid hpt
  clear hpt
  by_cases hbig : 20000 < p.size
  · have hb1 : (20000 : Int) < (p.size : Int) := by omega
    go_wp2_with fail
    refine (RP _ _ T16.out).mono ?_
    rintro e w7 ⟨rfl, b7⟩
    have B7 : Hid (Below w.heap.size w w7) := B6.out.trans (b7.mono B6.out.size)
    clear b7
    go_wp2_with fail
    go_ret
    exact ⟨rfl, B7.out⟩
  · have hb1 : ¬ (20000 : Int) < (p.size : Int) := by omega
    obtain ⟨l', e1, e2⟩ := scan_toks HOK.out HPT.out (by omega)
    have hv6 : w6.cell? ⟨4, 0, none⟩ = some (.iface te pe) := (B6.out.cell (p := ⟨4, 0, none⟩) h4).trans HV.out
    have S6 := scan_any p w6 te pe hv6
    rw [e1] at S6
    have H6 := hid S6
    have E2 := hid e2
    clear RP hv6 S6 e1 e2
    go_wp2_with fail
    refine H6.out.mono ?_
    rintro e w7 ⟨p7, b7⟩
    obtain ⟨a7, n7, c7, er7, rfl, f7⟩ := p7.gen
    obtain ⟨rfl, t7⟩ := f7
    have B7 : Hid (Below w.heap.size w w7) := B6.out.trans (b7.mono B6.out.size)
    have T17 := hid (T16.out.later (T := Any) b7 (fun _ _ _ => trivial))
    have T77 := hid t7
    obtain ⟨_, _, hsl7, -⟩ := id t7
    cases hsl7
    clear p7 b7 t7
    go_wp2_with fail
    refine (bare_any _ L _ T17.out).mono ?_
    rintro e w8 ⟨v8, rfl, t8, b8⟩
    have B8 : Hid (Below w.heap.size w w8) := B7.out.trans (b8.mono B7.out.size)
    have T78 := hid (T77.out.later (T := Any) b8 (fun _ _ _ => trivial))
    obtain ⟨a8, c8, rfl, -⟩ := id t8
    rw [List.length_map] at t8 ⊢
    have T8 := hid t8
    clear b8 t8
    go_wp2_with fail
    refine (bare_any _ _ _ T78.out).mono ?_
    rintro e w9 ⟨v9, rfl, t9, b9⟩
    have B9 : Hid (Below w.heap.size w w9) := B8.out.trans (b9.mono B8.out.size)
    have T89 := hid (T8.out.later (T := Any) b9 (fun _ _ _ => trivial))
    rw [E2.out] at t9
    obtain ⟨a9, c9, rfl, -⟩ := id t9
    rw [List.length_map] at t9 ⊢
    have T9 := hid t9
    clear b9 t9
    go_wp2_with fail
    refine (equalToks_any _ _ _ _ _ T89.out T9.out).mono ?_
    rintro e w10 ⟨rfl, b10⟩
    rw [toksEq_refl]
    have B10 : Hid (Below w.heap.size w w10) := B9.out.trans (b10.mono B9.out.size)
    clear b10
    go_wp2_with fail
    go_ret
    exact ⟨rfl, B10.out⟩
end Go.Proofs.YtodbpplgpaokjaaDoor
