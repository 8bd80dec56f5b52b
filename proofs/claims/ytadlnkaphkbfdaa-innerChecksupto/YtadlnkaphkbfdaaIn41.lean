/-
  InnerChecks: the law's own walk.
-/
import Derived.Test.YtadlnkaphkbfdaaIn40
import Derived.Test.YtadlnkaphkbfdaaIn24
import Derived.Test.YtadlnkaphkbfdaaSm
namespace Go.Proofs.Ytadlnkaphkbfdaa
set_option linter.unusedVariables false
set_option linter.unusedSimpArgs false
open Go.RowKit Go.Lib Go.Maps Go.Sort

theorem eqI_is (v1 v2 : Value) (xs : List Int) (w : World) (h1 : IntsIn Any w v1 xs) (h2 : IntsIn Any w v2 xs) :
    Calls Try.prog 12 #[v1, v2] w fun e w' => e = .returned (.bool true) ∧ Below w.heap.size w w' := by
  obtain ⟨a1, c1, rfl, l1, k1⟩ := Tx.ints_cells h1
  obtain ⟨a2, c2, rfl, _, k2⟩ := Tx.ints_cells h2
  refine (slicesEqual_cells a1 a2 c1 c2 xs.length xs.length xs xs w rfl rfl (by omega) k1 k2).mono ?_
  rintro e w' ⟨rfl, q, rfl⟩
  exact ⟨by simp, ⟨rfl, rfl, rfl, Nat.le_refl _, fun _ _ => rfl⟩⟩

set_option maxHeartbeats 4000000 in
set_option maxRecDepth 100000 in
theorem checks_walk (v : Value) (l : List MOp) (w : World) (h : OpsIn Any w v l) (hk : ∀ o ∈ l, OpKey o) (hki : ∀ i, OpKey (l.getD i default)) (hl : l.length ≤ 1048576) (hll : ∀ o ∈ l, o.list.length ≤ 1048576) :
    Calls Try.prog 3 #[v] w fun e w' => e = .returned (.bool true) ∧ Below w.heap.size w w' := by
  have H := hid h
  have HK := hid hk
  have HKI := hid hki
  have HL := hid hl
  have HLL := hid hll
  obtain ⟨va, vn, vc, hvv⟩ : ∃ a n c, v = .slice a n c := by obtain ⟨a, c, h, _⟩ := ops_at h; exact ⟨a, _, c, h⟩
  subst hvv
  clear h hk hki hl hll
  go_enter Try.func3, Try.ntmps3
  go_wp2_with fail
  go_at_call 9
  refine (Tx.ops_any _ l _ H.out).mono ?_
  rintro e w1 ⟨v1, rfl, ho1, b1⟩
  have H1 : Hid (OpsIn Any w1 v1 l) := (Tx.OpsOwn.keep ho1 (fun _ _ _ => rfl) (fun _ _ _ => trivial)).ops
  have B1 := hid b1
  obtain ⟨ga, gn, gc, hgv⟩ : ∃ a n c, v1 = .slice a n c := by obtain ⟨a, c, h, _⟩ := ops_at H1.out; exact ⟨a, _, c, h⟩
  subst hgv
  clear ho1 b1
  go_wp2_with fail
  go_at_call 10
  refine (check_any _ l _ H1.out HK.out HL.out HLL.out).mono ?_
  rintro e w2 ⟨r, rfl, f2, b2⟩
  have F2 := hid f2
  have B2 : Hid (Below w.heap.size w w2) := B1.out.trans (b2.mono B1.out.size)
  have H2 : Hid (OpsIn Any w2 _ l) := H1.out.below b2
  clear f2 b2
  go_wp2_with fail
  go_at_call 11
  refine (rcheck_any _ l _ (H.out.below B2.out) HL.out HLL.out).mono ?_
  rintro e w3 ⟨r', rfl, f3, b3⟩
  obtain rfl : r = r' := F2.out.uniq (f3.congr (fun i _ => (bad_rbad l i).symm))
  have B3 : Hid (Below w.heap.size w w3) := B2.out.trans (b3.mono B2.out.size)
  have H3 : Hid (OpsIn Any w3 _ l) := H2.out.below b3
  have hrr : (r == r) = true := by simp
  clear f3 b3 F2
  go_wp2_with fail
  go_at_call 13
  refine (external_is _ l _ H3.out HKI.out).mono ?_
  rintro e w4 ⟨v4, rfl, i4, n4, b4⟩
  have B4 : Hid (Below w.heap.size w w4) := B3.out.trans (b4.mono B3.out.size)
  have H4 : Hid (OpsIn Any w4 _ l) := H3.out.below b4
  have I4 : Hid (IntsIn Any w4 v4 (outsL l)) := own_ints i4 (by have := HL.out; omega)
  obtain ⟨ea, ec, hev⟩ := own_slice i4
  subst hev
  clear i4 n4 b4
  go_wp2_with fail
  go_at_call 14
  refine (rext_is _ l _ (H.out.below B4.out)).mono ?_
  rintro e w5 ⟨v5, rfl, i5, b5⟩
  have B5 : Hid (Below w.heap.size w w5) := B4.out.trans (b5.mono B4.out.size)
  have H5 : Hid (OpsIn Any w5 _ l) := H4.out.below b5
  have I45 := hid (I4.out.below b5)
  have hol : (outsL l).length * 8 ≤ 140737488355328 := by obtain ⟨_, _, _, q, _⟩ := I4.out; exact q.1
  have I5 : Hid (IntsIn Any w5 v5 (outsL l)) := own_ints i5 hol
  obtain ⟨fa, fc, hfv⟩ := own_slice i5
  subst hfv
  clear i5 b5 hol I4
  go_wp2_with fail
  go_at_call 12
  refine (eqI_is _ _ _ _ I45.out I5.out).mono ?_
  rintro e w6 ⟨rfl, b6⟩
  have B6 : Hid (Below w.heap.size w w6) := B5.out.trans (b6.mono B5.out.size)
  have H6 : Hid (OpsIn Any w6 _ l) := H5.out.below b6
  clear b6 I45 I5
  go_wp2_with fail
  go_at_call 15
  refine (finals_is _ l _ H6.out HKI.out).mono ?_
  rintro e w7 ⟨v7, rfl, i7, n7, b7⟩
  have B7 : Hid (Below w.heap.size w w7) := B6.out.trans (b7.mono B6.out.size)
  have H7 : Hid (OpsIn Any w7 _ l) := H6.out.below b7
  have I7 : Hid (IntsIn Any w7 v7 (finsL l)) := own_ints i7 (by have := HL.out; omega)
  obtain ⟨ka, kc, hkv⟩ := own_slice i7
  subst hkv
  clear i7 n7 b7
  go_wp2_with fail
  go_at_call 16
  refine (rfin_is _ l _ (H.out.below B7.out)).mono ?_
  rintro e w8 ⟨v8, rfl, i8, b8⟩
  have B8 : Hid (Below w.heap.size w w8) := B7.out.trans (b8.mono B7.out.size)
  have H8 : Hid (OpsIn Any w8 _ l) := H7.out.below b8
  have I78 := hid (I7.out.below b8)
  have hfl : (finsL l).length * 8 ≤ 140737488355328 := by obtain ⟨_, _, _, q, _⟩ := I7.out; exact q.1
  have I8 : Hid (IntsIn Any w8 v8 (finsL l)) := own_ints i8 hfl
  obtain ⟨ma, mc, hmv⟩ := own_slice i8
  subst hmv
  clear i8 b8 hfl I7
  go_wp2_with fail
  go_at_call 12
  refine (eqI_is _ _ _ _ I78.out I8.out).mono ?_
  rintro e w9 ⟨rfl, b9⟩
  have B9 : Hid (Below w.heap.size w w9) := B8.out.trans (b9.mono B8.out.size)
  have H9 : Hid (OpsIn Any w9 _ l) := H8.out.below b9
  clear b9 I78 I8
  go_wp2_with fail
  go_at_call 17
  refine (Tx.sameOps_any _ _ l l _ H9.out (H.out.below B9.out)).mono ?_
  rintro e w10 ⟨rfl, b10⟩
  have B10 : Hid (Below w.heap.size w w10) := B9.out.trans (b10.mono B9.out.size)
  have SE : Hid (opsEq l l = true) := allEq_refl _ opEq_refl _
  rw [SE.out]
  clear b10
  go_wp2_with fail
  go_ret
  exact ⟨rfl, B10.out⟩
end Go.Proofs.Ytadlnkaphkbfdaa
