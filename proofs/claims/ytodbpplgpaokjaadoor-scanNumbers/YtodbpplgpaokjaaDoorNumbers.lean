/-
  Walk of the law on numbers.
-/
import Derived.Test.YtodbpplgpaokjaaDoorD1
import Derived.Test.YtodbpplgpaokjaaDoorS4
import Derived.Laws.Concat
namespace Go.Proofs.YtodbpplgpaokjaaDoor
open Go.RowKit
set_option linter.unusedVariables false
set_option linter.unusedSimpArgs false

set_option maxRecDepth 100000 in
set_option maxHeartbeats 2000000 in
/-- The law's own walk. -/
theorem numbers_walk (n : Int) (w : World) (h0 : -9223372036854775808 ≤ n) (h1 : n ≤ 9223372036854775807) (te : TypeId) (pe : Value) (hv : w.cell? ⟨4, 0, none⟩ = some (.iface te pe)) :
    Calls Tryd.prog 7 #[.int .i64 n] w fun e w' => e = .returned (.bool true) ∧ Below w.heap.size w w' := by
  have h4 : 4 < w.heap.size := World.block_lt_of_cell? _ _ hv
  have HD := hid (decimal_any n w h0 h1)
  have HV := hid hv
  clear hv
  go_enter Tryd.func7, Tryd.ntmps7
  go_wp2_with fail
  refine HD.out.mono ?_
  rintro e w1 ⟨⟨s, rfl, hs⟩, b1⟩
  have HS := hid hs
  have B1 := hid b1
  have hv1 : w1.cell? ⟨4, 0, none⟩ = some (.iface te pe) := (b1.cell (p := ⟨4, 0, none⟩) h4).trans HV.out
  have h9 := scan_any s w1 te pe hv1
  rw [scan_decimal h0 h1 hs] at h9
  have H9 := hid h9
  have hlen : s.size ≤ 30 := by
    have e1 : s.size = s.data.toList.length := by simp
    rw [e1, hs]
    unfold decimal
    split
    · have := (dec_len (v := n.toNat) (by omega)).2; omega
    · have := (dec_len (v := (-n).toNat) (by omega)).2; simp; omega
  clear hs b1 h9 hv1
  go_wp2_with fail
  refine H9.out.mono ?_
  rintro e w2 ⟨⟨v, rfl, hT⟩, b2⟩
  have B2 : Hid (Below w.heap.size w w2) := B1.out.trans (b2.mono B1.out.size)
  have hv2 : w2.cell? ⟨4, 0, none⟩ = some (.iface te pe) := (B2.out.cell (p := ⟨4, 0, none⟩) h4).trans HV.out
  have hadd : ∀ wx, (Op.stringOp .add ⟨#[57, 50, 50, 51, 51, 55, 50, 48, 51, 54, 56, 53, 52, 55, 55, 53, 56, 48, 56, 32]⟩ s).run Tryd.prog wx = .ok (.string (⟨#[57, 50, 50, 51, 51, 55, 50, 48, 51, 54, 56, 53, 52, 55, 55, 53, 56, 48, 56, 32]⟩ ++ s)) wx := fun wx => run_string_add_sum wx _ _ (by show 20 + s.size ≤ _; omega)
  have hbig : scanM ((⟨#[57, 50, 50, 51, 51, 55, 50, 48, 51, 54, 56, 53, 52, 55, 55, 53, 56, 48, 56, 32]⟩ : ByteArray) ++ s) = .error (0, 11) := scan_big (r := s.data.toList) (by rw [dec_big]; simp [ByteArray.data_append]) (by simp; omega)
  have h9' := scan_any ((⟨#[57, 50, 50, 51, 51, 55, 50, 48, 51, 54, 56, 53, 52, 55, 55, 53, 56, 48, 56, 32]⟩ : ByteArray) ++ s) w2 te pe hv2
  rw [hbig] at h9'
  generalize ((⟨#[57, 50, 50, 51, 51, 55, 50, 48, 51, 54, 56, 53, 52, 55, 55, 53, 56, 48, 56, 32]⟩ : ByteArray) ++ s) = big at hadd h9'
  have H9' := hid h9'
  have HT := hid hT
  obtain ⟨ao, c, hv', -, hcc⟩ := id hT
  obtain ⟨b, off, rfl, -, hrow⟩ := hcc (by simp)
  simp only [List.length_cons, List.length_nil, Nat.zero_add] at hv'
  subst hv'
  clear b2 hbig h9' hv2 hT hcc hrow
  go_wp2_with fail
  refine H9'.out.mono ?_
  rintro e w3 ⟨he, b3⟩
  simp only [ScanPost] at he
  subst he
  have B3 : Hid (Below w.heap.size w w3) := B2.out.trans (b3.mono B2.out.size)
  have hT3 : ToksIn Any w3 _ _ := HT.out.later b3 (fun _ _ _ => trivial)
  obtain ⟨_, _, hv3, _, hcc3⟩ := hT3
  obtain ⟨b', off', hao, -, hrow3⟩ := hcc3 (by simp)
  have hx : (b' = b ∧ off' = off) := by
    simp only [Value.slice.injEq] at hv3
    have := hv3.1
    rw [← this] at hao
    simp at hao
    exact ⟨hao.1.symm, hao.2.symm⟩
  obtain ⟨rfl, rfl⟩ := hx
  obtain ⟨cs, hcl, hcr, hcs⟩ := hrow3 0 (by simp)
  simp only [TokRow, List.getD_cons_zero] at hcr
  subst hcr
  have d0 : w3.cell? ⟨b', off', none⟩ = some (.int .i64 2) := by have := hcs 0 _ rfl; simpa using this
  have d1 : w3.cell? ⟨b', off' + 1, none⟩ = some (.int .i64 0) := by have := hcs 1 _ rfl; simpa using this
  have d2 : w3.cell? ⟨b', off' + 2, none⟩ = some (.string s) := by have := hcs 2 _ rfl; simpa using this
  have d3 : w3.cell? ⟨b', off' + 3, none⟩ = some (.int .i64 n) := by have := hcs 3 _ rfl; simpa using this
  have heq := eqlTok 2 0 2 0 n n s s
  rw [tokEq_refl] at heq
  have hgd := fun a b => guardTok .eql a b #[.int .i64 2, .int .i64 0, .string s, .int .i64 n] #[.int .i64 2, .int .i64 0, .string s, .int .i64 n]
  clear hcs hcl hao hv3 hcc3 hrow3 b3
  go_wp2_with fail
  refine (is_fault 0 11 _).mono ?_
  rintro e w4 ⟨rfl, b4⟩
  have B4 : Hid (Below w.heap.size w w4) := B3.out.trans (b4.mono B3.out.size)
  clear b4
  go_wp2_with fail
  go_ret
  exact ⟨rfl, B4.out⟩
end Go.Proofs.YtodbpplgpaokjaaDoor
