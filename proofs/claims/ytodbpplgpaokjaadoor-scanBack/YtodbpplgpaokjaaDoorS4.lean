/-
  Walks of what holds errors and lists of tokens against one another.
-/
import Derived.Test.YtodbpplgpaokjaaDoorR3
import Derived.Laws.StructEq
namespace Go.Proofs.YtodbpplgpaokjaaDoor
set_option linter.unusedVariables false
set_option linter.unusedSimpArgs false
open Go.RowKit

/-- Whether two tokens are the same. -/
def tokEq (x y : MTok) : Bool := x.1 == y.1 && (x.2.1 == y.2.1 && (x.2.2.1.toList == y.2.2.1.toList && x.2.2.2 == y.2.2.2))
theorem tokEq_refl (x : MTok) : tokEq x x = true := by simp [tokEq]
def toksEq (xs ys : List MTok) : Bool := allEq tokEq xs ys
theorem toksEq_refl (xs : List MTok) : toksEq xs xs = true := allEq_refl _ tokEq_refl xs

theorem guardTok (op : BinOp) (a b : Operand) (xs ys : Array Value) (w : World) : (eqGuard op 33 a b (.agg xs) (.agg ys)).run Tryd.prog w = .ok () w := run_eqGuard_agg w op 33 a b xs ys (by kernel_rfl)

theorem equalTok (x0 x1 y0 y1 x3 y3 : Int) (x2 y2 : ByteArray) (w : World) :
    (Op.equalIn 10000 33 (.agg #[.int .i64 x0, .int .i64 x1, .string x2, .int .i64 x3]) (.agg #[.int .i64 y0, .int .i64 y1, .string y2, .int .i64 y3])).run Tryd.prog w = .ok (tokEq (x0, x1, x2, x3) (y0, y1, y2, y3)) w := by
  have u3 := Tryd.underlying3
  have a3 := Tryd.isAgg3
  have z3 := Tryd.sizeOf3
  have u9 := Tryd.underlying9
  have a9 := Tryd.isAgg9
  have z9 := Tryd.sizeOf9
  have hS : Tryd.prog.underlying 33 = some (.struct (Tryd.prog.fieldsOf 33)) := by kernel_rfl
  have hp : Tryd.prog.stoodInHeld 33 = false := by kernel_rfl
  rw [show (10000 : Nat) = 9999 + 1 from rfl, run_equalIn_agg w 9999 33 _ _ hS hp]
  simp only [Program.fieldsOf, Tryd.underlying33]
  go_simp
  by_cases h1 : x0 = y0 <;> by_cases h2 : x1 = y1 <;> by_cases h3 : x2.toList = y2.toList <;> by_cases h4 : x3 = y3 <;> simp [tokEq, h1, h2, h3, h4]

theorem neqTok (x0 x1 y0 y1 x3 y3 : Int) (x2 y2 : ByteArray) (w : World) :
    (binOp .neq 33 (.agg #[.int .i64 x0, .int .i64 x1, .string x2, .int .i64 x3]) (.agg #[.int .i64 y0, .int .i64 y1, .string y2, .int .i64 y3])).run Tryd.prog w = .ok (.bool (!tokEq (x0, x1, x2, x3) (y0, y1, y2, y3))) w := by
  rw [run_neq_struct, equalTok]; rfl
theorem eqlTok (x0 x1 y0 y1 x3 y3 : Int) (x2 y2 : ByteArray) (w : World) :
    (binOp .eql 33 (.agg #[.int .i64 x0, .int .i64 x1, .string x2, .int .i64 x3]) (.agg #[.int .i64 y0, .int .i64 y1, .string y2, .int .i64 y3])).run Tryd.prog w = .ok (.bool (tokEq (x0, x1, x2, x3) (y0, y1, y2, y3))) w := by
  rw [run_eql_struct, equalTok]; rfl

set_option maxHeartbeats 1000000 in
theorem equalToks_walk (a1 a2 : Option Addr) (c1 c2 n : Nat) (xs ys : List MTok) (S T : Nat → Prop) (w : World) (hx : xs.length = n) (hy : ys.length = n) (_hbig : n ≤ 9223372036854775807)
    (h1 : RowCells 4 (TokRow S w) w a1 xs n) (h2 : RowCells 4 (TokRow T w) w a2 ys n) :
    Calls Tryd.prog 12 #[.slice a1 n c1, .slice a2 n c2] w fun e w' => e = .returned (.bool (toksEq xs ys)) ∧ Below w.heap.size w w' := by
  have HX : Hid (xs.length = n) := hx
  have HY : Hid (ys.length = n) := hy
  clear hx hy
  go_enter Tryd.func12, Tryd.ntmps12
  go_wp2
  go_loopg [5, 13] n (fun g _ i wr => ∃ k : Nat, k ≤ n ∧ n - k ≤ g ∧ i = .int .i64 k ∧ Aside (∃ q, wr = w.drewN q) ∧ Aside (∀ j, j < k → tokEq (xs.getD j default) (ys.getD j default) = true))
  case atStart => exact ⟨0, Nat.zero_le _, by omega, rfl, ⟨0, rfl⟩, fun j hj => absurd hj (Nat.not_lt_zero _)⟩
  case round =>
    obtain ⟨k, hk, hg, rfl, ⟨q, rfl⟩, A⟩ := hrel
    by_cases hlt : k < n
    · have hlti : (k : Int) < (n : Int) := by omega
      obtain ⟨b1, o1, cs1, rfl, hb1, _, e1, k1⟩ := h1 k hlt
      obtain ⟨b2, o2, cs2, rfl, hb2, _, e2, k2⟩ := h2 k hlt
      clear h1 h2
      unfold TokRow at e1 e2
      subst e1 e2
      have d0 : w.cell? ⟨b1, o1 + k * 4, none⟩ = _ := k1 0 _ rfl
      have d1 := k1 1 _ rfl
      have d2 := k1 2 _ rfl
      have d3 := k1 3 _ rfl
      have f0 : w.cell? ⟨b2, o2 + k * 4, none⟩ = _ := k2 0 _ rfl
      have f1 := k2 1 _ rfl
      have f2 := k2 2 _ rfl
      have f3 := k2 3 _ rfl
      clear k1 k2
      generalize hX : xs.getD k default = X at *
      generalize hY : ys.getD k default = Y at *
      have HX' := hid hX
      have HY' := hid hY
      clear hX hY
      obtain ⟨x0, x1, x2, x3⟩ := X
      obtain ⟨y0, y1, y2, y3⟩ := Y
      simp only at *
      have hnq := neqTok x0 x1 y0 y1 x3 y3 x2 y2
      have hgd := fun a b => guardTok .neq a b #[.int .i64 x0, .int .i64 x1, .string x2, .int .i64 x3] #[.int .i64 y0, .int .i64 y1, .string y2, .int .i64 y3]
      generalize hq : tokEq (x0, x1, x2, x3) (y0, y1, y2, y3) = r at hnq
      have HQ := hid hq
      clear hq
      cases r with
      | true =>
        go_wp2
        go_quiet (fail)
        go_wp2
        go_roundg (n - (k + 1))
        case measure => omega
        case rel =>
          refine ⟨k + 1, by omega, by omega, by go_num, ⟨_, rfl⟩, (show Aside _ from fun j hj => ?_)⟩
          by_cases e : j = k
          · subst e; rw [HX'.out, HY'.out]; exact HQ.out
          · exact A.out j (by omega)
      | false =>
        go_wp2
        go_quiet (fail)
        go_wp2
        go_ret
        refine ⟨?_, ⟨rfl, rfl, rfl, Nat.le_refl _, fun _ _ => rfl⟩⟩
        rw [show toksEq xs ys = false from allEq_miss _ xs ys k (by rw [HX.out]; exact hlt) (by rw [HX'.out, HY'.out]; exact HQ.out)]
        rfl
    · go_wp2
      go_ret
      refine ⟨?_, ⟨rfl, rfl, rfl, Nat.le_refl _, fun _ _ => rfl⟩⟩
      rw [show toksEq xs ys = true from allEq_hit _ xs ys (by rw [HX.out, HY.out]) (fun j hj => A.out j (by rw [HX.out] at hj; omega))]
      rfl

theorem equalToks_lens (a1 a2 : Option Addr) (c1 c2 n m : Nat) (w : World) (hnm : n ≠ m) :
    Calls Tryd.prog 12 #[.slice a1 n c1, .slice a2 m c2] w fun e w' => e = .returned (.bool false) ∧ Below w.heap.size w w' := by
  have hne : ((n : Int) != (m : Int)) = true := by rw [bne_iff_ne]; omega
  go_enter Tryd.func12, Tryd.ntmps12
  go_wp2
  go_ret
  exact ⟨rfl, Below.refl _ _⟩

/-- slices.Equal tells whether two lists of tokens are the same. -/
theorem equalToks_any {S T : Nat → Prop} (v1 v2 : Value) (xs ys : List MTok) (w : World) (h1 : ToksIn S w v1 xs) (h2 : ToksIn T w v2 ys) :
    Calls Tryd.prog 12 #[v1, v2] w fun e w' => e = .returned (.bool (toksEq xs ys)) ∧ Below w.heap.size w w' := by
  obtain ⟨a1, c1, rfl, l1, k1⟩ := RowsIn.cells h1 (by omega)
  obtain ⟨a2, c2, rfl, l2, k2⟩ := RowsIn.cells h2 (by omega)
  by_cases h : xs.length = ys.length
  · rw [← h] at k2 ⊢
    exact equalToks_walk a1 a2 c1 c2 xs.length xs ys S T w rfl h.symm (by omega) k1 k2
  · rw [show toksEq xs ys = false from allEq_len _ xs ys h]
    exact equalToks_lens a1 a2 c1 c2 _ _ w h

theorem why_nil (w : World) : Calls Tryd.prog 27 #[.nilIface] w fun e w' => e = .returned (.tuple #[.int .i64 0, .int .i64 0]) ∧ Below w.heap.size w w' := by
  go_enter Tryd.func27, Tryd.ntmps27
  go_wp2
  go_ret2
  exact ⟨rfl, Below.refl _ _⟩

theorem assertFault (a y : Int) (w : World) : (Instr.typeAssert (.iface 46 (.agg #[.int .i64 a, .int .i64 y])) 24 46 true).run Tryd.prog w = .ok (.tuple #[.agg #[.int .i64 a, .int .i64 y], .bool true]) w := by kernel_rfl

set_option maxRecDepth 100000 in
set_option maxHeartbeats 1000000 in
theorem why_fault (a y : Int) (w : World) : Calls Tryd.prog 27 #[.iface 46 (.agg #[.int .i64 a, .int .i64 y])] w fun e w' => e = .returned (.tuple #[.int .i64 y, .int .i64 a]) ∧ Below w.heap.size w w' := by
  have hta := assertFault a y
  go_enter Tryd.func27, Tryd.ntmps27
  go_wp2
  go_quiet (fail)
  go_wp2
  go_ret2
  exact ⟨rfl, below_drewN ((Below.refl _ _).alloc (Nat.le_refl _) _) _⟩
/-- An error is a number at a place. -/
theorem is_nil (w : World) : Calls Tryd.prog 11 #[.nilIface, .int .i64 0, .int .i64 0] w fun e w' => e = .returned (.bool true) ∧ Below w.heap.size w w' := by
  go_enter Tryd.func11, Tryd.ntmps11
  go_wp2_with (go_at_call 27; refine (why_nil _).mono ?_; rintro e w' ⟨rfl, hb⟩)
  go_ret
  exact ⟨rfl, hb⟩

theorem is_fault (a y : Int) (w : World) : Calls Tryd.prog 11 #[.iface 46 (.agg #[.int .i64 a, .int .i64 y]), .int .i64 a, .int .i64 y] w fun e w' => e = .returned (.bool true) ∧ Below w.heap.size w w' := by
  have h1 : (a == a) = true := by simp
  have h2 : (y == y) = true := by simp
  go_enter Tryd.func11, Tryd.ntmps11
  go_wp2_with (go_at_call 27; refine (why_fault _ _ _).mono ?_; rintro e w' ⟨rfl, hb⟩)
  go_ret
  exact ⟨by simp, hb⟩

/-- Scan and its reference, at any text. -/
theorem scan_any (s : ByteArray) (w : World) (te : TypeId) (pe : Value) (hv : w.cell? ⟨4, 0, none⟩ = some (.iface te pe)) :
    Calls Tryd.prog 9 #[.string s] w fun e w' => ScanPost w (scanM s) e w' ∧ Below w.heap.size w w' := by
  by_cases h : 20000 < s.size
  · unfold scanM; rw [if_pos h]; exact scan_long s w h
  · rw [scanM_left (by omega)]; exact scan_walk s w (by omega) te pe hv

theorem refScan_any (s : ByteArray) (w : World) : Calls Tryd.prog 10 #[.string s] w fun e w' => RefPost w (scanM s) e w' ∧ Below w.heap.size w w' := by
  by_cases h : 20000 < s.size
  · unfold scanM; rw [if_pos h]; exact refScan_long s w h
  · rw [scanM_left (by omega)]; exact refScan_walk s w (by omega)

theorem ToksIn.later {S T : Nat → Prop} {w w' : World} {v : Value} {l : List MTok} (h : ToksIn S w v l) (hb : Below w.heap.size w w') (hT : ∀ b, b < w.heap.size → S b → T b) : ToksIn T w' v l :=
  RowsIn.keep h (by omega) (fun _ _ hr => hr) (keeps_below hb) hT

set_option maxHeartbeats 1000000 in
/-- The law's own walk. -/
theorem tells_walk (s : ByteArray) (w : World) (te : TypeId) (pe : Value) (hv : w.cell? ⟨4, 0, none⟩ = some (.iface te pe)) :
    Calls Tryd.prog 3 #[.string s] w fun e w' => e = .returned (.bool true) ∧ Below w.heap.size w w' := by
  cases hS : scanM s with
  | ok l =>
    have h9 := scan_any s w te pe hv
    have h10 := refScan_any s
    rw [hS] at h9 h10
    have H9 := hid h9
    have H10 := hid h10
    clear h9 h10 hS hv
    go_enter Tryd.func3, Tryd.ntmps3
    go_wp2_with fail
    refine H9.out.mono ?_
    rintro e w1 ⟨⟨v1, rfl, t1⟩, b1⟩
    have B1 := hid b1
    have T1 := hid t1
    obtain ⟨a1, c1, rfl, -⟩ := id t1
    clear b1 t1
    go_wp2_with fail
    refine (H10.out w1).mono ?_
    rintro e w2 ⟨⟨v2, rfl, t2⟩, b2⟩
    have B2 : Hid (Below w.heap.size w w2) := B1.out.trans (b2.mono B1.out.size)
    have T12 : Hid (ToksIn Any w2 _ l) := T1.out.later b2 (fun _ _ _ => trivial)
    have T2 := hid t2
    obtain ⟨a2, c2, rfl, -⟩ := id t2
    clear b2 t2
    go_wp2_with fail
    refine (is_nil _).mono ?_
    rintro e w3 ⟨rfl, b3⟩
    have T13 : Hid (ToksIn Any w3 _ l) := T12.out.later b3 (fun _ _ _ => trivial)
    have T23 : Hid (ToksIn Any w3 _ l) := T2.out.later b3 (fun _ _ _ => trivial)
    have B3 : Hid (Below w.heap.size w w3) := B2.out.trans (b3.mono B2.out.size)
    clear b3
    go_wp2_with fail
    refine (equalToks_any _ _ l l _ T13.out T23.out).mono ?_
    rintro e w4 ⟨rfl, b4⟩
    rw [toksEq_refl]
    have B4 : Hid (Below w.heap.size w w4) := B3.out.trans (b4.mono B3.out.size)
    clear b4
    go_wp2_with fail
    go_ret
    exact ⟨rfl, B4.out⟩
  | error q =>
    obtain ⟨a, y⟩ := q
    have h9 := scan_any s w te pe hv
    have h10 := refScan_any s
    rw [hS] at h9 h10
    have H9 := hid h9
    have H10 := hid h10
    clear h9 h10 hS hv
    go_enter Tryd.func3, Tryd.ntmps3
    go_wp2_with fail
    refine H9.out.mono ?_
    rintro e w1 ⟨he, b1⟩
    simp only [ScanPost] at he
    subst he
    have B1 := hid b1
    clear b1
    go_wp2_with fail
    refine (H10.out w1).mono ?_
    rintro e w2 ⟨he, b2⟩
    simp only [RefPost] at he
    subst he
    have B2 : Hid (Below w.heap.size w w2) := B1.out.trans (b2.mono B1.out.size)
    clear b2
    go_wp2_with fail
    refine (is_fault _ _ _).mono ?_
    rintro e w3 ⟨rfl, b3⟩
    have B3 : Hid (Below w.heap.size w w3) := B2.out.trans (b3.mono B2.out.size)
    clear b3
    have hnil : ToksIn Any w3 (.slice none 0 0) [] := ⟨none, 0, rfl, by simp, fun h => by simp at h⟩
    have HNIL := hid hnil
    clear hnil
    go_wp2_with fail
    refine (equalToks_any _ _ [] [] _ HNIL.out HNIL.out).mono ?_
    rintro e w4 ⟨rfl, b4⟩
    rw [toksEq_refl]
    have B4 : Hid (Below w.heap.size w w4) := B3.out.trans (b4.mono B3.out.size)
    clear b4
    go_wp2_with fail
    go_ret
    exact ⟨rfl, B4.out⟩
end Go.Proofs.YtodbpplgpaokjaaDoor
