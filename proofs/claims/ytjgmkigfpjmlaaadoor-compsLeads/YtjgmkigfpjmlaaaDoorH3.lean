/-
  The document's graphs: Out, Edges.
-/
import Derived.Test.YtjgmkigfpjmlaaaDoorH2
namespace Go.Proofs.YtjgmkigfpjmlaaaDoor
set_option linter.unusedVariables false
set_option linter.unusedSimpArgs false
open Go.RowKit

theorem i64_and1 (n : Int) : bits .and .i64 n 1 = n % 2 := by
  have h1 : (BitVec.ofInt 64 1).toNat = 2 ^ 1 - 1 := by decide
  have key : (BitVec.ofInt 64 n &&& BitVec.ofInt 64 1).toNat = (n % ((2 ^ 64 : Nat) : Int)).toNat % 2 ^ 1 := by
    rw [BitVec.toNat_and, BitVec.toNat_ofInt, h1, Nat.and_two_pow_sub_one_eq_mod]
  show IntKind.i64.wrap ((BitVec.ofInt 64 n &&& BitVec.ofInt 64 1).toNat : Nat) = n % 2
  rw [key, IntKind.wrap_i64]
  omega
theorem and_low (x y : Nat) (hx : x < 16) : x &&& y = x &&& (y % 16) := by
  have e : x = x % 2 ^ 4 := (Nat.mod_eq_of_lt hx).symm
  apply Nat.eq_of_testBit_eq
  intro i
  rw [Nat.testBit_and, Nat.testBit_and, show (16 : Nat) = 2 ^ 4 from rfl, Nat.testBit_mod_two_pow]
  by_cases h : i < 4
  · simp [h]
  · have : x.testBit i = false := Nat.testBit_lt_two_pow (Nat.lt_of_lt_of_le hx (Nat.pow_le_pow_right (n := 2) (i := 4) (by decide) (by omega)))
    simp [this]
theorem i64_and_low (x : Nat) (hx : x < 16) (m : Int) : bits .and .i64 (x : Int) m = ((x &&& (m % 16).toNat : Nat) : Int) := by
  have hx2 : (BitVec.ofInt 64 (x : Int)).toNat = x := by
    rw [BitVec.ofInt_natCast, BitVec.toNat_ofNat]; exact Nat.mod_eq_of_lt (by omega)
  have key : (BitVec.ofInt 64 (x : Int) &&& BitVec.ofInt 64 m).toNat = x &&& (m % 16).toNat := by
    rw [BitVec.toNat_and, hx2, BitVec.toNat_ofInt, and_low x _ hx]
    congr 1
    omega
  show IntKind.i64.wrap ((BitVec.ofInt 64 (x : Int) &&& BitVec.ofInt 64 m).toNat : Nat) = _
  rw [key, IntKind.wrap_i64]
  have : x &&& (m % 16).toNat ≤ x := Nat.and_le_left
  omega
theorem lbit_low (m : Int) (i : Nat) (hi : i < 4) : lbit m i = ((m % 16).toNat).testBit i := by
  unfold lbit
  rw [i64_and1, Nat.testBit_eq_decide_div_mod_eq, Bool.eq_iff_iff]
  have h4 : i = 0 ∨ i = 1 ∨ i = 2 ∨ i = 3 := by omega
  rcases h4 with rfl | rfl | rfl | rfl <;> simp <;> omega
set_option maxRecDepth 100000 in
theorem any_and : ∀ x : Nat, x < 16 → ∀ M : Nat, M < 16 → ((List.range 4).any fun i => M.testBit i && x.testBit i) = !(x &&& M == 0) := by decide +kernel
theorem ends_and (L : Nat → Nat → Nat) (f t : Nat) (labels : Int) (hx : L f t < 16) : (bits BinOp.and IntKind.i64 (L f t : Int) labels == 0) = !endsF L f labels 4 t := by
  have e : endsF L f labels 4 t = ((List.range 4).any fun i => ((labels % 16).toNat).testBit i && (L f t).testBit i) := by
    have hr : List.range 4 = [0, 1, 2, 3] := rfl
    unfold endsF
    rw [hr]
    simp only [List.any_cons, List.any_nil]
    rw [lbit_low labels 0 (by omega), lbit_low labels 1 (by omega), lbit_low labels 2 (by omega), lbit_low labels 3 (by omega)]
  rw [e, any_and _ hx _ (by omega), i64_and_low _ hx, Bool.not_not, Bool.eq_iff_iff]
  simp

set_option maxHeartbeats 4000000 in
set_option maxRecDepth 100000 in
theorem rout_gen (b n : Nat) (v : Value) (rw' : Nat → Nat) (L : Nat → Nat → Nat) (f labels : Int) (F : Nat → Bool) (x : Nat → Nat) (w : World) (h : RefG w b n v rw' L)
    (hx : ∀ t, t < n → ∀ W, RefG W b n v rw' L → Calls Tryd.prog 55 #[.pointer (some ⟨b, 0, none⟩), .int .i64 f, .int .i64 t] W fun e w' => e = .returned (.int .i64 (x t)) ∧ W = w') (hF : ∀ t, t < n → (bits BinOp.and IntKind.i64 (x t : Int) labels == 0) = !F t) :
    Calls Tryd.prog 54 #[.pointer (some ⟨b, 0, none⟩), .int .i64 f, .int .i64 labels] w fun e w' => (∃ u, e = .returned u ∧ Ints w.heap.size w' u (lst F n)) ∧ Below w.heap.size w w' := by
  obtain ⟨i0, hi, hz'⟩ := Option.map_eq_some_iff.1 Tryd.info3
  simp only [Prod.mk.injEq] at hz'
  obtain ⟨hz0, hz1, hz2⟩ := hz'
  have HI := hid hi
  have HZ0 := hid hz0
  have HZ1 := hid hz1
  have HZ2 := hid hz2
  clear hi hz0 hz1 hz2
  have R := hid h
  have HX := hid hx
  have HF := hid hF
  have hn3 := h.bound
  have hni : (n : Int) ≤ 300 := by omega
  obtain ⟨ao, cap, hv, hr⟩ := h.form
  have c0 := h.c0
  rw [hv] at c0
  clear h hr hx hF hv
  go_enter Tryd.func54, Tryd.ntmps54
  go_wp2_with fail
  go_loopg [7, 8, 14] n (fun g l _ i wr => ∃ k : Nat, k ≤ n ∧ n - k ≤ g ∧ i = .int .i64 k ∧ Aside (Ints w.heap.size wr l (lst F k)) ∧ Aside (Below w.heap.size w wr))
  case atStart => exact ⟨0, Nat.zero_le _, by omega, rfl, World.ownsRow_nil _ _ _ _, Below.refl _ _⟩
  case round =>
    obtain ⟨k, hk, hg, rfl, OX, BX⟩ := hrel
    by_cases hlt : k < n
    · have hlti : (k : Int) < n := by omega
      have HO := hid (lst_one F k)
      have HC := hid (HX.out k hlt wr (R.out.later BX.out))
      have q := HF.out k hlt
      obtain ⟨y, hy⟩ : ∃ y, x k = y := ⟨_, rfl⟩
      rw [hy] at HC q
      clear hy
      cases hfk : F k
      · rw [hfk] at q HO
        simp only [Bool.not_false] at q
        clear hfk
        go_wp2_with (go_at_call 55; refine HC.out.mono ?_; rintro e w' ⟨rfl, rfl⟩)
        go_roundg (n - (k + 1))
        · exact ⟨k + 1, by omega, by omega, by go_num, by have h := HO.out; simp at h; rw [h]; exact OX.out, BX.out⟩
        · omega
      · rw [hfk] at q HO
        simp only [Bool.not_true] at q
        clear hfk
        have HLE := hid (lst_le F k)
        have hsz := hid BX.out.size
        go_wp2_with (first | (go_at_call 55; refine HC.out.mono ?_; rintro e w' ⟨rfl, rfl⟩) | (at_builtin; refine wpList_append_lies _ rfl _ _ 29 rfl w.heap.size 3 i0 _ 1 8 Tryd.underlying29 HI.out HZ0.out HZ1.out HZ2.out rfl (by decide) u7 (lst F k).length (intsV (lst F k)) rfl ?hown ⟨wr.heap.size, 0, none⟩ 1 1 [.int .i64 k] rfl rfl ?hnews ?hone (by decide) ?h63 ?hby ?hbase (wr.heap.size + 1) ?hH ?_))
        case hown => exact World.ownsRow.alloc OX.out _
        case hnews => exact World.news_of_block (heap_alloc_new wr (.cells #[.int .i64 k] 3))
        case hone => intro u hu; simp at hu; subst hu; rfl
        case h63 => have := HLE.out; unfold maxLen; omega
        case hby => have := HLE.out; omega
        case hbase => have := hsz.out; simp; omega
        case hH => simp
        intro g cap' w4 hown4 hgrow hat hglt
        have B4 : Hid (Below w.heap.size w w4) := BX.out.trans (((below_box wr _).mono hsz.out).grown hgrow (by have := hsz.out; simp; omega) (fun x hx => (OX.out.lt x hx).1))
        have O4 : Hid (Ints w.heap.size w4 (.slice (some ⟨g, 0, none⟩) ((lst F k).length + 1) cap') (lst F (k + 1))) := by
          unfold Ints intsV at *
          have h := HO.out
          simp at h
          rw [h, List.map_append, List.length_append]
          exact hown4
        clear hown4 hgrow hat hglt
        go_wp2_with fail
        go_roundg (n - (k + 1))
        · exact ⟨k + 1, by omega, by omega, by go_num, O4.out, B4.out⟩
        · omega
    · have hlti : ¬ (k : Int) < n := by omega
      have ek : n = k := by omega
      subst ek
      go_wp2_with fail
      go_ret
      exact ⟨⟨_, rfl, OX.out⟩, BX.out⟩
theorem rout_ok (b n : Nat) (v : Value) (rw' : Nat → Nat) (L : Nat → Nat → Nat) (f : Nat) (labels : Int) (w : World) (h : RefG w b n v rw' L) (hf : f < n) :
    Calls Tryd.prog 54 #[.pointer (some ⟨b, 0, none⟩), .int .i64 f, .int .i64 labels] w fun e w' => (∃ u, e = .returned u ∧ Ints w.heap.size w' u (lst (endsF L f labels 4) n)) ∧ Below w.heap.size w w' :=
  rout_gen b n v rw' L f labels (endsF L f labels 4) (L f) w h (fun t ht W hW => rlabels_ok b n v rw' L f t W hW hf ht) (fun t ht => ends_and L f t labels (h.small f t))
theorem rout_no (b n : Nat) (v : Value) (rw' : Nat → Nat) (L : Nat → Nat → Nat) (f labels : Int) (w : World) (h : RefG w b n v rw' L) (hf : f < 0 ∨ (n : Int) ≤ f) :
    Calls Tryd.prog 54 #[.pointer (some ⟨b, 0, none⟩), .int .i64 f, .int .i64 labels] w fun e w' => (∃ u, e = .returned u ∧ Ints w.heap.size w' u []) ∧ Below w.heap.size w w' := by
  have e : lst (fun _ => false) n = [] := by unfold lst; simp
  have := rout_gen b n v rw' L f labels (fun _ => false) (fun _ => 0) w h (fun t ht W hW => rlabels_no b n v rw' L f t W hW (.inl hf)) (fun t ht => by
    have := i64_and_low 0 (by decide) labels
    simp at this
    simp [this])
  rw [e] at this
  exact this
end Go.Proofs.YtjgmkigfpjmlaaaDoor
