/-
  DeskOptions: the law's own walk.
-/
import Derived.Test.YtebohmcbeacdkaaDoorDk4
namespace Go.Proofs.YtebohmcbeacdkaaDoor
set_option linter.unusedVariables false
set_option linter.unusedSimpArgs false
open Go.RowKit

theorem equalOpt (a b : Bool) (c : Int) (w : World) :
    (Op.equalIn 10000 23 (.agg #[.bool a, .bool b, .int .i64 c]) (.agg #[.bool a, .bool b, .int .i64 c])).run Tryd.prog w = .ok true w := by
  have u3 := Tryd.underlying3
  have a3 := Tryd.isAgg3
  have z3 := Tryd.sizeOf3
  have u4 := Tryd.underlying4
  have a4 := Tryd.isAgg4
  have z4 := Tryd.sizeOf4
  have hS : Tryd.prog.underlying 23 = some (.struct (Tryd.prog.fieldsOf 23)) := by kernel_rfl
  have hp : Tryd.prog.stoodInHeld 23 = false := by kernel_rfl
  rw [show (10000 : Nat) = 9999 + 1 from rfl, run_equalIn_agg w 9999 23 _ _ hS hp]
  simp only [Program.fieldsOf, Tryd.underlying23]
  go_simp
theorem guardOpt (op : BinOp) (a b : Operand) (xs ys : Array Value) (w : World) : (eqGuard op 23 a b (.agg xs) (.agg ys)).run Tryd.prog w = .ok () w := run_eqGuard_agg w op 23 a b xs ys (by kernel_rfl)
theorem eqlOpt (a b : Bool) (c : Int) (w : World) :
    (binOp .eql 23 (.agg #[.bool a, .bool b, .int .i64 c]) (.agg #[.bool a, .bool b, .int .i64 c])).run Tryd.prog w = .ok (.bool true) w := by
  rw [run_eql_struct, equalOpt]; rfl

theorem scanM_err {s : ByteArray} {a y : Nat} (h : scanM s = .error (a, y)) : ((y : Int) != 0) = true := by
  have go : ∀ (f i : Nat) (acc : List MTok), scanFrom s f i acc = .error (a, y) → ((y : Int) != 0) = true := by
    intro f
    induction f with
    | zero => intro i acc h; cases h
    | succ f ih =>
      intro i acc h
      simp only [scanFrom] at h
      split at h
      · split at h
        · exact ih _ _ h
        · split at h
          · rename_i e he
            cases h
            exact tokM_err he
          · exact ih _ _ h
      · cases h
  unfold scanM at h
  split at h
  · cases h; rfl
  · exact go _ _ _ h

theorem parse_is (s : ByteArray) (w : World) (te : TypeId) (pe : Value) (hv : w.cell? ⟨2, 0, none⟩ = some (.iface te pe)) :
    Calls Tryd.prog 5 #[.string s] w fun e w' => e = .returned (parseV (optM s)) ∧ Below w.heap.size w w' := by
  cases hS : scanM s with
  | error q => exact parse_err s w te pe hv q.1 q.2 hS
  | ok l => exact parse_ok s w te pe hv l hS
theorem rparse_is (s : ByteArray) (w : World) :
    Calls Tryd.prog 6 #[.string s] w fun e w' => e = .returned (rparseV (optM s)) ∧ Below w.heap.size w w' := by
  cases hS : scanM s with
  | error q => exact rparse_err s w q.1 q.2 hS (scanM_err hS)
  | ok l => exact rparse_ok s w l hS

set_option maxHeartbeats 2000000 in
set_option maxRecDepth 100000 in
theorem options_walk (s : ByteArray) (w : World) (te : TypeId) (pe : Value) (hv : w.cell? ⟨2, 0, none⟩ = some (.iface te pe)) :
    Calls Tryd.prog 3 #[.string s] w fun e w' => e = .returned (.bool true) ∧ Below w.heap.size w w' := by
  have H5 := hidD (parse_is s w te pe hv)
  have H6 := hidD (rparse_is s)
  clear hv
  cases hO : optM s with
  | ok o =>
    rw [hO] at H5 H6
    obtain ⟨o0, o1, o2, o3⟩ := o
    have hb : (o3 == o3) = true := by simp
    have q1 := eqlOpt o0 o1 o2
    have q2 := fun a b => guardOpt .eql a b #[.bool o0, .bool o1, .int .i64 o2] #[.bool o0, .bool o1, .int .i64 o2]
    go_enter Tryd.func3, Tryd.ntmps3
    go_wp2_with fail
    refine H5.out.mono ?_
    rintro e w1 ⟨rfl, b1⟩
    simp only [parseV]
    have B1 := hidD b1
    clear b1
    go_wp2_with fail
    refine (H6.out _).mono ?_
    rintro e w2 ⟨rfl, b2⟩
    simp only [rparseV]
    have e0 : w2.cell? ⟨w1.heap.size, 0, none⟩ = some (.bool o0) := (b2.cell (p := ⟨w1.heap.size, 0, none⟩) (by simp)).trans (by simp)
    have e1 : w2.cell? ⟨w1.heap.size, 1, none⟩ = some (.bool o1) := (b2.cell (p := ⟨w1.heap.size, 1, none⟩) (by simp)).trans (by simp)
    have e2 : w2.cell? ⟨w1.heap.size, 2, none⟩ = some (.int .i64 o2) := (b2.cell (p := ⟨w1.heap.size, 2, none⟩) (by simp)).trans (by simp)
    have B2 : Hid (Below w.heap.size w w2) := (B1.out.trans ((below_new w1 _).mono B1.out.size)).trans (b2.mono (by have := B1.out.size; simp; omega))
    clear b2
    have f0 : (w2.alloc (.cells #[.bool o0, .bool o1, .int .i64 o2] 23)).cell? ⟨w1.heap.size, 0, none⟩ = some (.bool o0) := Lib.cell?_alloc_some _ e0
    have f1 : (w2.alloc (.cells #[.bool o0, .bool o1, .int .i64 o2] 23)).cell? ⟨w1.heap.size, 1, none⟩ = some (.bool o1) := Lib.cell?_alloc_some _ e1
    have f2 : (w2.alloc (.cells #[.bool o0, .bool o1, .int .i64 o2] 23)).cell? ⟨w1.heap.size, 2, none⟩ = some (.int .i64 o2) := Lib.cell?_alloc_some _ e2
    go_wp2_with fail
    all_goals ((refine (is_nil _).mono ?_; rintro e w3 ⟨rfl, b3⟩; have B3 : Hid (Below w.heap.size w w3) := (B2.out.trans ((below_new w2 _).mono B2.out.size)).trans (b3.mono (by have := B2.out.size; simp; omega)); go_wp2_with fail; go_ret; exact ⟨rfl, B3.out⟩))
  | error q =>
    obtain ⟨a, y⟩ := q
    rw [hO] at H5 H6
    have hb : (false == false) = true := by simp
    have q1 := eqlOpt false false 0
    have q2 := fun a b => guardOpt .eql a b #[.bool false, .bool false, .int .i64 0] #[.bool false, .bool false, .int .i64 0]
    go_enter Tryd.func3, Tryd.ntmps3
    go_wp2_with fail
    refine H5.out.mono ?_
    rintro e w1 ⟨rfl, b1⟩
    simp only [parseV]
    have B1 := hidD b1
    clear b1
    go_wp2_with fail
    refine (H6.out _).mono ?_
    rintro e w2 ⟨rfl, b2⟩
    simp only [rparseV]
    have e0 : w2.cell? ⟨w1.heap.size, 0, none⟩ = some (.bool false) := (b2.cell (p := ⟨w1.heap.size, 0, none⟩) (by simp)).trans (by simp)
    have e1 : w2.cell? ⟨w1.heap.size, 1, none⟩ = some (.bool false) := (b2.cell (p := ⟨w1.heap.size, 1, none⟩) (by simp)).trans (by simp)
    have e2 : w2.cell? ⟨w1.heap.size, 2, none⟩ = some (.int .i64 0) := (b2.cell (p := ⟨w1.heap.size, 2, none⟩) (by simp)).trans (by simp)
    have B2 : Hid (Below w.heap.size w w2) := (B1.out.trans ((below_new w1 _).mono B1.out.size)).trans (b2.mono (by have := B1.out.size; simp; omega))
    clear b2
    have f0 : (w2.alloc (.cells #[.bool false, .bool false, .int .i64 0] 23)).cell? ⟨w1.heap.size, 0, none⟩ = some (.bool false) := Lib.cell?_alloc_some _ e0
    have f1 : (w2.alloc (.cells #[.bool false, .bool false, .int .i64 0] 23)).cell? ⟨w1.heap.size, 1, none⟩ = some (.bool false) := Lib.cell?_alloc_some _ e1
    have f2 : (w2.alloc (.cells #[.bool false, .bool false, .int .i64 0] 23)).cell? ⟨w1.heap.size, 2, none⟩ = some (.int .i64 0) := Lib.cell?_alloc_some _ e2
    go_wp2_with fail
    all_goals ((refine (is_fault _ _ _).mono ?_; rintro e w3 ⟨rfl, b3⟩; have B3 : Hid (Below w.heap.size w w3) := (B2.out.trans ((below_new w2 _).mono B2.out.size)).trans (b3.mono (by have := B2.out.size; simp; omega)); go_wp2_with fail; go_ret; exact ⟨rfl, B3.out⟩))
end Go.Proofs.YtebohmcbeacdkaaDoor
