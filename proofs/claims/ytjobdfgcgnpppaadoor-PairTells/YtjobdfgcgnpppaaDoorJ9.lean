/-
  errors.As at a *api.Fault: nothing of a nil error; of a Fault the Fault itself.
  errors.As of a Fault, at a *api.Fault: it is set.
  pair.Txns and pair.Check.
  assayerplain.SameTxns, where the two are the same.
  assayerplain.Spoil writes into the blocks of what it is given, and nowhere else.
-/
import Derived.Test.YtjobdfgcgnpppaaDoorJ4
import Derived.WalkKit
import Derived.LaidEql
import Derived.Stop.Asserts
import Derived.RowKitTokens
import Derived.Test.YtjobdfgcgnpppaaDoorJ8
import Derived.Deep.WholeRow
import Derived.Laws.Concat
import Derived.Deep.Cut
namespace Go.Proofs.YtjobdfgcgnpppaaDoor
set_option linter.unusedVariables false
set_option linter.unusedSimpArgs false
open Go.RowKit Go.Extern.Stop Go.Stop Go.Extern

theorem as_nil (t : Value) (w : World) : Calls Tryd.prog 27 #[.nilIface, t] w fun e w' => e = .returned (.bool false) ∧ w' = w := by
  go_enter Tryd.func27, Tryd.ntmps27
  go_wp2
  go_ret
  exact ⟨rfl, rfl⟩
theorem Tryd.valueOf71 (t : Addr) (w : World) : (ReflectliteValue.unpack (.iface 71 (.pointer (some t)))).run Tryd.prog w
    = .ok (.agg #[.pointer (some ⟨1, 71, none⟩), .pointer (some ⟨w.heap.size, 0, none⟩), .int .u64 150]) (w.alloc (.cells #[.pointer (some t)] 71)) := by kernel_rfl
theorem Tryd.type71 (a : Addr) (w : World) : (ReflectliteValue.methodAny (ReflectliteValue.valueError "reflectlite.Value.Type" 0) (fun t _ _ _ => ReflectliteType.toType t) #[.agg #[.pointer (some ⟨1, 71, none⟩), .pointer (some a), .int .u64 150]]).run Tryd.prog w
    = .ok (.iface 104 (.agg #[.pointer (some ⟨1, 71, none⟩)])) w := by kernel_rfl
theorem Tryd.methodKind (n : Nat) (h : Value) (w : World) : (Go.method (n + 1) 104 (.agg #[h]) "Kind").run Tryd.prog w = .ok (84, h) w := by kernel_rfl
theorem Tryd.kind71 (w : World) : ((ReflectliteType.abiMethod fun t => Functor.map (fun a : Nat => Value.int IntKind.u8 (a : Int)) (Rtype.kind t)) #[.pointer (some ⟨1, 71, none⟩)]).run Tryd.prog w = .ok (.int .u8 22) w := by kernel_rfl
theorem Tryd.kind62 (w : World) : ((ReflectliteType.abiMethod fun t => Functor.map (fun a : Nat => Value.int IntKind.u8 (a : Int)) (Rtype.kind t)) #[.pointer (some ⟨1, 62, none⟩)]).run Tryd.prog w = .ok (.int .u8 25) w := by kernel_rfl
theorem Tryd.parts71 (a : Addr) (w : World) : (ReflectliteValue.parts (.agg #[.pointer (some ⟨1, 71, none⟩), .pointer (some a), .int .u64 150])).run Tryd.prog w = .ok (some (71, a, 150)) w := by kernel_rfl
theorem Tryd.isNil71 (a p : Addr) (W : World) (ha : W.cell? a = some (.pointer (some p))) :
    (ReflectliteValue.method (ReflectliteValue.valueError "reflectlite.Value.IsNil" 0) ReflectliteValue.isNil #[.agg #[.pointer (some ⟨1, 71, none⟩), .pointer (some a), .int .u64 150]]).run Tryd.prog W = .ok (.bool false) W := by
  unfold ReflectliteValue.method
  change (bind (ReflectliteValue.parts _) _ : Sem Value).run Tryd.prog W = _
  simp only [Sem.run_bind, Array.getLit, List.getElem_toArray, List.getElem_cons_zero, List.getElem_cons_succ, Tryd.parts71, Result.andThen]
  simp [ReflectliteValue.isNil, loadVar, isAgg, underlying, Tryd.underlying71, ha, Result.andThen]
theorem Tryd.methodElem (n : Nat) (h : Value) (w : World) : (Go.method (n + 1) 104 (.agg #[h]) "Elem").run Tryd.prog w = .ok (96, .agg #[h]) w := by kernel_rfl
theorem Tryd.methodImplements (n : Nat) (h : Value) (w : World) : (Go.method (n + 1) 104 (.agg #[h]) "Implements").run Tryd.prog w = .ok (97, .agg #[h]) w := by kernel_rfl
theorem Tryd.methodAssignableTo (n : Nat) (h : Value) (w : World) : (Go.method (n + 1) 104 (.agg #[h]) "AssignableTo").run Tryd.prog w = .ok (94, .agg #[h]) w := by kernel_rfl
theorem Tryd.elem71 (w : World) : (ReflectliteType.method ReflectliteType.elem #[.agg #[.pointer (some ⟨1, 71, none⟩)]]).run Tryd.prog w = .ok (.iface 104 (.agg #[.pointer (some ⟨1, 62, none⟩)])) w := by kernel_rfl
theorem Tryd.implements62 (w : World) : (ReflectliteType.relation "Implements" ReflectliteType.implements_ #[.agg #[.pointer (some ⟨1, 62, none⟩)], .iface 104 (.agg #[.pointer (some ⟨1, 25, none⟩)])]).run Tryd.prog w = .ok (.bool true) w := by kernel_rfl
theorem Tryd.typeOf62 (v : Value) (w : World) : (ReflectliteType.typeOf #[.iface 62 v]).run Tryd.prog w = .ok (.iface 104 (.agg #[.pointer (some ⟨1, 62, none⟩)])) w := by kernel_rfl
theorem Tryd.assignable62 (w : World) : (ReflectliteType.relation "AssignableTo" ReflectliteType.assignableTo #[.agg #[.pointer (some ⟨1, 62, none⟩)], .iface 104 (.agg #[.pointer (some ⟨1, 62, none⟩)])]).run Tryd.prog w = .ok (.bool true) w := by kernel_rfl
theorem Tryd.valueOf62 (x y : Int) (w : World) : (ReflectliteValue.unpack (.iface 62 (.agg #[.int .i64 x, .int .i64 y]))).run Tryd.prog w
    = .ok (.agg #[.pointer (some ⟨1, 62, none⟩), .pointer (some ⟨w.heap.size, 0, none⟩), .int .u64 153]) (w.alloc (.cells #[.int .i64 x, .int .i64 y] 62)) := by kernel_rfl
theorem Tryd.elemOf71 (w : World) : (Rtype.elem? 71).run Tryd.prog w = .ok (some 62) w := by kernel_rfl
theorem Tryd.mk62 (p : Addr) (w : World) : (ReflectliteValue.mk 62 p ReflectliteValue.flagAddr).run Tryd.prog w = .ok (.agg #[.pointer (some ⟨1, 62, none⟩), .pointer (some p), .int .u64 409]) w := by kernel_rfl
theorem Tryd.elemV71 (a p : Addr) (W : World) (ha : W.cell? a = some (.pointer (some p))) :
    (ReflectliteValue.method (ReflectliteValue.valueError "reflectlite.Value.Elem" 0) ReflectliteValue.elem #[.agg #[.pointer (some ⟨1, 71, none⟩), .pointer (some a), .int .u64 150]]).run Tryd.prog W
      = .ok (.agg #[.pointer (some ⟨1, 62, none⟩), .pointer (some p), .int .u64 409]) W := by
  unfold ReflectliteValue.method
  change (bind (ReflectliteValue.parts _) _ : Sem Value).run Tryd.prog W = _
  simp only [Sem.run_bind, Array.getLit, List.getElem_toArray, List.getElem_cons_zero, List.getElem_cons_succ, Tryd.parts71, Result.andThen]
  simp [ReflectliteValue.elem, loadVar, isAgg, underlying, Tryd.underlying71, ha, Result.andThen, Tryd.elemOf71, Tryd.mk62]
theorem Tryd.parts62a (a : Addr) (w : World) : (ReflectliteValue.parts (.agg #[.pointer (some ⟨1, 62, none⟩), .pointer (some a), .int .u64 409])).run Tryd.prog w = .ok (some (62, a, 409)) w := by kernel_rfl
theorem Tryd.parts62 (a : Addr) (w : World) : (ReflectliteValue.parts (.agg #[.pointer (some ⟨1, 62, none⟩), .pointer (some a), .int .u64 153])).run Tryd.prog w = .ok (some (62, a, 153)) w := by kernel_rfl
theorem Tryd.direct62 (w : World) : (Rtype.directlyAssignable 62 62).run Tryd.prog w = .ok true w := by kernel_rfl
theorem Tryd.size62 (w : World) : (sizeOf 62).run Tryd.prog w = .ok 2 w := by kernel_rfl
theorem Tryd.set62 (t b : Nat) (x y : Int) (o0 o1 : Value) (W : World) (hb0 : W.cell? ⟨b, 0, none⟩ = some (.int .i64 x)) (hb1 : W.cell? ⟨b, 1, none⟩ = some (.int .i64 y)) (ht0 : W.cell? ⟨t, 0, none⟩ = some o0) (ht1 : W.cell? ⟨t, 1, none⟩ = some o1) (hf0 : W.frozen? ⟨t, 0, none⟩ = false) (hf1 : W.frozen? ⟨t, 1, none⟩ = false) :
    (ReflectliteValue.set #[.agg #[.pointer (some ⟨1, 62, none⟩), .pointer (some ⟨t, 0, none⟩), .int .u64 409], .agg #[.pointer (some ⟨1, 62, none⟩), .pointer (some ⟨b, 0, none⟩), .int .u64 153]]).run Tryd.prog W
      = .ok (.tuple #[]) ((W.setCell ⟨t, 0, none⟩ (.int .i64 x)).setCell ⟨t, 1, none⟩ (.int .i64 y)) := by
  unfold ReflectliteValue.set
  change (bind (ReflectliteValue.parts _) _ : Sem Value).run Tryd.prog W = _
  simp only [Sem.run_bind, Array.getLit, List.getElem_toArray, List.getElem_cons_zero, List.getElem_cons_succ, Tryd.parts62a, Tryd.parts62, Result.andThen]
  simp [ReflectliteValue.flagAddr, loadVar, isAgg, underlying, Tryd.underlying62, hb0, hb1, Result.andThen, Tryd.direct62, Tryd.size62, storeVar, Value.cells, storeCells, Addr.add]
  have hl : Sem.run Tryd.prog (loadCells ⟨b, 0, none⟩ 2) W = .ok #[.int .i64 x, .int .i64 y] W := by simp [loadCells, go_sem, hb0, hb1, Addr.add]
  have hn : (⟨t, 0, none⟩ : Addr) ≠ ⟨t, 1, none⟩ := by simp
  have hs : Sem.run Tryd.prog (storeCells ⟨t, 0, none⟩ [.int .i64 x, .int .i64 y]) W = .ok () ((W.setCell ⟨t, 0, none⟩ (.int .i64 x)).setCell ⟨t, 1, none⟩ (.int .i64 y)) := by
    simp [storeCells, go_sem, Addr.add, ht0, hf0, ht1, hf1]
  simp [hl, hs]
end Go.Proofs.YtjobdfgcgnpppaaDoor
namespace Go.Proofs.YtjobdfgcgnpppaaDoor
set_option linter.unusedVariables false
set_option linter.unusedSimpArgs false
open Go.RowKit Go.Extern.Stop Go.Stop Go.Extern

set_option maxHeartbeats 4000000 in
set_option maxRecDepth 100000 in
theorem as_hit (x y : Int) (t : Nat) (o0 o1 : Value) (w : World) (hg : w.cell? ⟨0, 0, none⟩ = some (.iface 104 (.agg #[.pointer (some ⟨1, 25, none⟩)]))) (ht0 : w.cell? ⟨t, 0, none⟩ = some o0) (ht1 : w.cell? ⟨t, 1, none⟩ = some o1) (hf0 : w.frozen? ⟨t, 0, none⟩ = false) (hf1 : w.frozen? ⟨t, 1, none⟩ = false) :
    Calls Tryd.prog 27 #[.iface 62 (.agg #[.int .i64 x, .int .i64 y]), .iface 71 (.pointer (some ⟨t, 0, none⟩))] w fun ev w' => ev = .returned (.bool true) ∧ w' = (((((w.alloc (.cells #[.pointer (some ⟨t, 0, none⟩)] 71)).alloc (.cells #[.pointer (some ⟨1, 71, none⟩), .pointer (some ⟨w.heap.size, 0, none⟩), .int .u64 150] 88)).alloc (.cells #[.pointer (some ⟨1, 71, none⟩), .pointer (some ⟨w.heap.size, 0, none⟩), .int .u64 150] 88)).alloc (.cells #[.int .i64 x, .int .i64 y] 62)).setCell ⟨t, 0, none⟩ (.int .i64 x)).setCell ⟨t, 1, none⟩ (.int .i64 y) := by
  have h40 := @run_callFunc_extern Tryd.prog 40 _ (fun args => ReflectliteValue.unpack (args.getD 0 (.tuple #[]))) Tryd.func40 (by kernel_rfl) (by kernel_rfl) (by kernel_rfl) (by kernel_rfl)
  have h41 := @run_callFunc_extern Tryd.prog 41 _ (ReflectliteValue.methodAny (ReflectliteValue.valueError "reflectlite.Value.Type" 0) (fun t _ _ _ => ReflectliteType.toType t)) Tryd.func41 (by kernel_rfl) (by kernel_rfl) (by kernel_rfl) (by kernel_rfl)
  have h42 := @run_callFunc_extern Tryd.prog 42 _ (ReflectliteValue.method (ReflectliteValue.valueError "reflectlite.Value.IsNil" 0) ReflectliteValue.isNil) Tryd.func42 (by kernel_rfl) (by kernel_rfl) (by kernel_rfl) (by kernel_rfl)
  have h84 := @run_callFunc_extern Tryd.prog 84 _ (ReflectliteType.abiMethod fun t => do pure (.int .u8 (← Rtype.kind t))) Tryd.func84 (by kernel_rfl) (by kernel_rfl) (by kernel_rfl) (by kernel_rfl)
  have h96 := @run_callFunc_extern Tryd.prog 96 _ (ReflectliteType.method ReflectliteType.elem) Tryd.func96 (by kernel_rfl) (by kernel_rfl) (by kernel_rfl) (by kernel_rfl)
  have h97 := @run_callFunc_extern Tryd.prog 97 _ (ReflectliteType.relation "Implements" ReflectliteType.implements_) Tryd.func97 (by kernel_rfl) (by kernel_rfl) (by kernel_rfl) (by kernel_rfl)
  have h50 := @run_callFunc_extern Tryd.prog 50 _ (ReflectliteType.typeOf) Tryd.func50 (by kernel_rfl) (by kernel_rfl) (by kernel_rfl) (by kernel_rfl)
  have h94 := @run_callFunc_extern Tryd.prog 94 _ (ReflectliteType.relation "AssignableTo" ReflectliteType.assignableTo) Tryd.func94 (by kernel_rfl) (by kernel_rfl) (by kernel_rfl) (by kernel_rfl)
  have h51 := @run_callFunc_extern Tryd.prog 51 _ (ReflectliteValue.method (ReflectliteValue.valueError "reflectlite.Value.Elem" 0) ReflectliteValue.elem) Tryd.func51 (by kernel_rfl) (by kernel_rfl) (by kernel_rfl) (by kernel_rfl)
  have h52 := @run_callFunc_extern Tryd.prog 52 _ (ReflectliteValue.set) Tryd.func52 (by kernel_rfl) (by kernel_rfl) (by kernel_rfl) (by kernel_rfl)
  have tO := Tryd.typeOf62
  have mA := Tryd.methodAssignableTo
  have a25 := Tryd.assignable62
  have v25 := Tryd.valueOf62
  have f6 := Tryd.valueOf71
  have f7 := Tryd.type71
  have mK := Tryd.methodKind
  have mE := Tryd.methodElem
  have mI := Tryd.methodImplements
  have k27 := Tryd.kind71
  have k25 := Tryd.kind62
  have e27 := Tryd.elem71
  have i25 := Tryd.implements62
  have n8 := Tryd.isNil71 ⟨w.heap.size, 0, none⟩ ⟨t, 0, none⟩ ((w.alloc (.cells #[.pointer (some ⟨t, 0, none⟩)] 71)).alloc (.cells #[.pointer (some ⟨1, 71, none⟩), .pointer (some ⟨w.heap.size, 0, none⟩), .int .u64 150] 88)) (by simp)
  have hlt : 0 < w.heap.size := World.block_lt_of_cell? _ _ hg
  have htl : t < w.heap.size := World.block_lt_of_cell? _ _ ht0
  have hg2 : ((w.alloc (.cells #[.pointer (some ⟨t, 0, none⟩)] 71)).alloc (.cells #[.pointer (some ⟨1, 71, none⟩), .pointer (some ⟨w.heap.size, 0, none⟩), .int .u64 150] 88)).cell? ⟨0, 0, none⟩ = some (.iface 104 (.agg #[.pointer (some ⟨1, 25, none⟩)])) := by
    rw [World.cell?_alloc_lt _ _ ⟨0, 0, none⟩ (by simp), World.cell?_alloc_lt _ _ ⟨0, 0, none⟩ hlt]; exact hg
  have el := Tryd.elemV71 ⟨w.heap.size, 0, none⟩ ⟨t, 0, none⟩ (((w.alloc (.cells #[.pointer (some ⟨t, 0, none⟩)] 71)).alloc (.cells #[.pointer (some ⟨1, 71, none⟩), .pointer (some ⟨w.heap.size, 0, none⟩), .int .u64 150] 88)).alloc (.cells #[.pointer (some ⟨1, 71, none⟩), .pointer (some ⟨w.heap.size, 0, none⟩), .int .u64 150] 88)) (by rw [World.cell?_alloc_lt _ _ ⟨w.heap.size, 0, none⟩ (by simp; omega)]; simp)
  have old : ∀ (a : Addr) u, a.block < w.heap.size → w.cell? a = some u → ((((w.alloc (.cells #[.pointer (some ⟨t, 0, none⟩)] 71)).alloc (.cells #[.pointer (some ⟨1, 71, none⟩), .pointer (some ⟨w.heap.size, 0, none⟩), .int .u64 150] 88)).alloc (.cells #[.pointer (some ⟨1, 71, none⟩), .pointer (some ⟨w.heap.size, 0, none⟩), .int .u64 150] 88)).alloc (.cells #[.int .i64 x, .int .i64 y] 62)).cell? a = some u := fun a u hl hu => by
    rw [World.cell?_alloc_lt _ _ a (by simp; omega), World.cell?_alloc_lt _ _ a (by simp; omega), World.cell?_alloc_lt _ _ a (by simp; omega), World.cell?_alloc_lt _ _ a hl]; exact hu
  have fro : ∀ (a : Addr), a.block < w.heap.size → w.frozen? a = false → ((((w.alloc (.cells #[.pointer (some ⟨t, 0, none⟩)] 71)).alloc (.cells #[.pointer (some ⟨1, 71, none⟩), .pointer (some ⟨w.heap.size, 0, none⟩), .int .u64 150] 88)).alloc (.cells #[.pointer (some ⟨1, 71, none⟩), .pointer (some ⟨w.heap.size, 0, none⟩), .int .u64 150] 88)).alloc (.cells #[.int .i64 x, .int .i64 y] 62)).frozen? a = false := fun a hl hu => by
    rw [World.frozen?_alloc_old _ _ a (by simp; omega), World.frozen?_alloc_old _ _ a (by simp; omega), World.frozen?_alloc_old _ _ a (by simp; omega), World.frozen?_alloc_old _ _ a (Nat.ne_of_lt hl)]; exact hu
  have st := Tryd.set62 t (w.heap.size + 1 + 1 + 1) x y o0 o1 ((((w.alloc (.cells #[.pointer (some ⟨t, 0, none⟩)] 71)).alloc (.cells #[.pointer (some ⟨1, 71, none⟩), .pointer (some ⟨w.heap.size, 0, none⟩), .int .u64 150] 88)).alloc (.cells #[.pointer (some ⟨1, 71, none⟩), .pointer (some ⟨w.heap.size, 0, none⟩), .int .u64 150] 88)).alloc (.cells #[.int .i64 x, .int .i64 y] 62)) (by rw [World.cell?_alloc_at _ _ _ _ (by simp)]; rfl) (by rw [World.cell?_alloc_at _ _ _ _ (by simp)]; rfl) (old _ _ htl ht0) (old _ _ htl ht1) (fro _ htl hf0) (fro _ htl hf1)
  clear old fro
  go_enter Tryd.func27, Tryd.ntmps27
  go_wp2
  refine wp_loop_rounds 1 ?_
  rw [rounds_succ]
  go_wp2
  go_ret
  exact ⟨rfl, rfl⟩
end Go.Proofs.YtjobdfgcgnpppaaDoor
namespace Go.Proofs.YtjobdfgcgnpppaaDoor
set_option linter.unusedVariables false
set_option linter.unusedSimpArgs false
open Go.RowKit Go.Lib Go.Maps

theorem zc_is : Tryd.zeroCells68 = #[Value.slice none 0 0, .map none] ++ Array.replicate 100 (Value.bool false) ++ #[.map none] := by kernel_rfl
theorem zc_size : Tryd.zeroCells68.size = 103 := by rw [zc_is]; simp
theorem zc_info : (Tryd.prog.info? 68).map (·.size) = some 103 := by kernel_rfl
/-- The box of the pairing, filled. -/
def pairC (a b : Nat) : Array Value := #[Value.slice none 0 0, .map (some a)] ++ Array.replicate 100 (Value.bool false) ++ #[.map (some b)]
theorem pairC_is (a b : Nat) : (Tryd.zeroCells68.setIfInBounds 1 (.map (some a))).setIfInBounds 102 (.map (some b)) = pairC a b := by kernel_rfl
theorem pairC_size (a b : Nat) : (pairC a b).size = 103 := by simp [pairC]
theorem pairC_one (a b : Nat) : (pairC a b).all (·.oneCell') = true := by kernel_rfl
theorem pair_store (W : World) (a b : Nat) : (storeCells ⟨W.heap.size, 0, none⟩ ((Tryd.zeroCells68.toList.set 1 (.map (some a))).set 102 (.map (some b)))).run Tryd.prog (W.alloc (.cells Tryd.zeroCells68 68)) = .ok () (W.alloc (.cells (pairC a b) 68)) := by
  have h := run_storeCells_new (P := Tryd.prog) W 68 Tryd.zeroCells68 (pairC a b) (by rw [pairC_size]; exact zc_info) (by rw [zc_size, pairC_size]) (pairC_one a b)
  rw [← Array.toList_setIfInBounds, ← Array.toList_setIfInBounds, pairC_is]
  exact h
theorem pair_store2 (W : World) : (storeCells ⟨W.heap.size + 1 + 1, 0, none⟩ ((Tryd.zeroCells68.toList.set 1 (.map (some W.heap.size))).set 102 (.map (some (W.heap.size + 1))))).run Tryd.prog (((W.alloc (.map #[] 0)).alloc (.map #[] 0)).alloc (.cells Tryd.zeroCells68 68)) = .ok () (((W.alloc (.map #[] 0)).alloc (.map #[] 0)).alloc (.cells (pairC W.heap.size (W.heap.size + 1)) 68)) := by
  have q := pair_store ((W.alloc (.map #[] 0)).alloc (.map #[] 0)) W.heap.size (W.heap.size + 1)
  rw [show ((W.alloc (.map #[] 0)).alloc (.map #[] 0)).heap.size = W.heap.size + 1 + 1 from by simp] at q
  exact q
theorem pairC_at (a b : Nat) : (pairC a b)[0]? = some (.slice none 0 0) ∧ (pairC a b)[1]? = some (.map (some a)) ∧ (pairC a b)[102]? = some (.map (some b)) ∧ ∀ p, p < 100 → (pairC a b)[2 + p]? = some (.bool false) := by
  refine ⟨by simp [pairC], by simp [pairC], by unfold pairC; rw [Array.getElem?_append_right (by simp)]; simp, fun p hp => ?_⟩
  unfold pairC
  rw [Array.getElem?_append_left (by simp; omega), Array.getElem?_append_right (by simp)]
  simp [hp]
/-- At the beginning. -/
theorem PT.start (w : World) (l : List MEv) : PT (((w.alloc (.map #[] 0)).alloc (.map #[] 0)).alloc (.cells (pairC w.heap.size (w.heap.size + 1)) 68)) (w.heap.size + 3) (w.heap.size + 2) w.heap.size (w.heap.size + 1) l 0 ∧ TH (((w.alloc (.map #[] 0)).alloc (.map #[] 0)).alloc (.cells (pairC w.heap.size (w.heap.size + 1)) 68)) (w.heap.size + 1) 0 [] := by
  have e1 : (w.alloc (.map #[] 0)).heap.size = w.heap.size + 1 := by simp
  have e2 : ((w.alloc (.map #[] 0)).alloc (.map #[] 0)).heap.size = w.heap.size + 2 := by simp
  have hc : ∀ i, (((w.alloc (.map #[] 0)).alloc (.map #[] 0)).alloc (.cells (pairC w.heap.size (w.heap.size + 1)) 68)).cell? ⟨w.heap.size + 2, i, none⟩ = (pairC w.heap.size (w.heap.size + 1))[i]? := fun i => by
    rw [← e2]
    exact new_cells _ _ 68 i
  obtain ⟨p0, p1, p2, p3⟩ := pairC_at w.heap.size (w.heap.size + 1)
  have m1 : MapV (((w.alloc (.map #[] 0)).alloc (.map #[] 0)).alloc (.cells (pairC w.heap.size (w.heap.size + 1)) 68)) Tryd.prog 3 w.heap.size 0 (fun _ => none) := (MapV.made w Tryd.prog 3).same (by
    have b1 := (below_box (w.alloc (.map #[] 0)) (.map #[] 0)).block w.heap.size (by omega)
    have b2 := (below_box ((w.alloc (.map #[] 0)).alloc (.map #[] 0)) (.cells (pairC w.heap.size (w.heap.size + 1)) 68)).block w.heap.size (by omega)
    exact b2.trans b1)
  have m2 : MapV (((w.alloc (.map #[] 0)).alloc (.map #[] 0)).alloc (.cells (pairC w.heap.size (w.heap.size + 1)) 68)) Tryd.prog 9 (w.heap.size + 1) 0 (fun _ => none) := by
    have q := MapV.made (w.alloc (.map #[] 0)) Tryd.prog 9
    rw [e1] at q
    exact q.same ((below_box ((w.alloc (.map #[] 0)).alloc (.map #[] 0)) (.cells (pairC w.heap.size (w.heap.size + 1)) 68)).block (w.heap.size + 1) (by omega))
  refine ⟨⟨by omega, by omega, by omega, by simp, by omega, by omega, by omega, (hc 1).trans p1, fun p hp => (hc (2 + p)).trans (p3 p hp), (hc 102).trans p2, fun o => ?_, ⟨0, Nat.le_refl _, _, m1, fun p => rfl⟩, _, [], (hc 0).trans p0, OutInv.nil _ _ _ _ _⟩, _, m2, fun s => rfl⟩
  rw [← e2]
  exact Lib.frozen_of_heap (heap_alloc_new _ _) o
theorem as_hit2 (x y : Int) (t : Nat) (o0 o1 : Value) (w : World) (hg : w.cell? ⟨0, 0, none⟩ = some (.iface 104 (.agg #[.pointer (some ⟨1, 25, none⟩)]))) (ht0 : w.cell? ⟨t, 0, none⟩ = some o0) (ht1 : w.cell? ⟨t, 1, none⟩ = some o1) (hf0 : w.frozen? ⟨t, 0, none⟩ = false) (hf1 : w.frozen? ⟨t, 1, none⟩ = false) :
    Calls Tryd.prog 27 #[.iface 62 (.agg #[.int .i64 x, .int .i64 y]), .iface 71 (.pointer (some ⟨t, 0, none⟩))] w fun ev w' => ev = .returned (.bool true) ∧ w'.cell? ⟨t, 0, none⟩ = some (.int .i64 x) ∧ w'.cell? ⟨t, 1, none⟩ = some (.int .i64 y) ∧ ButB t w w' := by
  refine (as_hit x y t o0 o1 w hg ht0 ht1 hf0 hf1).mono ?_
  rintro ev w' ⟨he, hw⟩
  obtain ⟨W, hW⟩ : ∃ W, (((w.alloc (.cells #[.pointer (some ⟨t, 0, none⟩)] 71)).alloc (.cells #[.pointer (some ⟨1, 71, none⟩), .pointer (some ⟨w.heap.size, 0, none⟩), .int .u64 150] 88)).alloc (.cells #[.pointer (some ⟨1, 71, none⟩), .pointer (some ⟨w.heap.size, 0, none⟩), .int .u64 150] 88)).alloc (.cells #[.int .i64 x, .int .i64 y] 62) = W := ⟨_, rfl⟩
  have hb : Below w.heap.size w W := by
    rw [← hW]
    exact bstep (below_box _ _) (bstep (below_box _ _) (bstep (below_box _ _) (below_box _ _)))
  rw [hW] at hw
  have c0 := cell_later hb ht0
  have c1 := cell_later hb ht1
  rw [hw]
  refine ⟨he, ?_, ?_, ?_⟩
  · exact (World.cell?_setCell_other _ _ _ _ (fun c => by have := congrArg Addr.off c; simp at this)).trans (World.cell?_setCell_same _ _ _ c0)
  · exact World.cell?_setCell_same _ _ _ ((World.cell?_setCell_other _ _ _ _ (fun c => by have := congrArg Addr.off c; simp at this)).trans c1)
  · refine ⟨hb.os, hb.tape, hb.output, by simpa [World.setCell] using hb.size, fun b hl hn => (set_ne hn).trans ((set_ne hn).trans (hb.block b hl))⟩
/-- What Txns comes to: no history, a first wrong event, or the transactions. -/
def TxnsR (l : List MEv) (B : Nat) (w' : World) (v : Value) (a y : Int) : Prop :=
  (canM l = false ∧ v = .slice none 0 0 ∧ a = 0 ∧ y = 1) ∨ (canM l = true ∧ ∃ k, k < l.length ∧ (∀ j, j < k → stepE l j = 0) ∧ stepE l k ≠ 0 ∧ v = .slice none 0 0 ∧ a = (k : Int) ∧ y = stepE l k) ∨ (canM l = true ∧ (∀ j, j < l.length → stepE l j = 0) ∧ (∃ rows, OutInv 44 5 TxR B w' v (invN l l.length) rows (txL l l.length)) ∧ a = 0 ∧ y = 0)
theorem TxnsR.arg {l : List MEv} {B : Nat} {w' : World} (h : canM l = false) : TxnsR l B w' (.slice none 0 0) 0 1 := .inl ⟨h, rfl, rfl, rfl⟩
theorem TxnsR.bad {l : List MEv} {B : Nat} {w' : World} (h : canM l = true) (k : Nat) (hk : k < l.length) (hz : ∀ j, j < k → stepE l j = 0) (hs : stepE l k ≠ 0) : TxnsR l B w' (.slice none 0 0) (k : Int) (stepE l k) := .inr (.inl ⟨h, k, hk, hz, hs, rfl, rfl, rfl⟩)
theorem TxnsR.good {l : List MEv} {B : Nat} {w' : World} (h : canM l = true) (hz : ∀ j, j < l.length → stepE l j = 0) (v : Value) (rows : List (List Value)) (ho : OutInv 44 5 TxR B w' v (invN l l.length) rows (txL l l.length)) : TxnsR l B w' v 0 0 := .inr (.inr ⟨h, hz, ⟨rows, ho⟩, rfl, rfl⟩)
/-- What is known at the head of the loop. -/
def TxI (B pb ob hb : Nat) (W0 : World) (l : List MEv) (k : Nat) (wr : World) : Prop := PT wr B pb ob hb l k ∧ (∃ m, m ≤ 8 * k ∧ TH wr hb m (opsP l k)) ∧ K3 B pb ob hb W0 wr ∧ ∀ j, j < k → stepE l j = 0
theorem OutInv.lower {e size B B' n : Nat} {α : Type} [Inhabited α] {R : (Nat → Prop) → World → List Value → α → Prop} {w : World} {v : Value} {rows : List (List Value)} {l : List α} (hkeep : ∀ (S T : Nat → Prop) w w' cs x, R S w cs x → KeepsIn S w w' → (∀ b, b < w.heap.size → S b → T b) → R T w' cs x) (h : OutInv e size R B w v n rows l) (hB : B' ≤ B) : OutInv e size R B' w v n rows l := by
  refine ⟨h.rn, h.ln, ⟨h.own.1, ?_⟩, h.sizes, fun j hj => hkeep _ _ _ _ _ _ (h.each j hj) (fun _ _ _ => rfl) (fun b _ hb => ⟨Nat.le_trans hB hb.1, hb.2⟩)⟩
  rcases h.own.2 with c | ⟨g, cap, cur, c1, c2, c3⟩
  · exact .inl c
  · exact .inr ⟨g, cap, cur, c1, Nat.le_trans hB c2, c3⟩
theorem can_ev {l : List MEv} (h : canM l = true) {k : Nat} (hk : k < l.length) : evHead (l.getD k default) ∧ ∀ o ∈ (l.getD k default).ops, okK o ∧ o.key.size ≤ 6 := by
  unfold canM at h
  rw [Bool.and_eq_true, List.all_eq_true] at h
  have hm : l.getD k default ∈ l := by simp [List.getD, List.getElem?_eq_getElem hk]
  have h2 := h.2 _ hm
  unfold evOk at h2
  rw [Bool.and_eq_true, decide_eq_true_eq, List.all_eq_true] at h2
  refine ⟨h2.1, fun o ho => ?_⟩
  have h3 := h2.2 o ho
  unfold opKey keyOk at h3
  rw [Bool.and_eq_true, Bool.and_eq_true, decide_eq_true_eq] at h3
  refine ⟨?_, h3.1.2⟩
  have h4 := h3.2
  unfold opOk at h4
  unfold okK
  by_cases c1 : o.kind = 1
  · omega
  · by_cases c2 : o.kind = 2
    · omega
    · by_cases c3 : o.kind = 3
      · omega
      · by_cases c4 : o.kind = 4
        · omega
        · exfalso
          have q1 : (o.kind == (1 : Int)) = false := by simpa using c1
          have q2 : (o.kind == (2 : Int)) = false := by simpa using c2
          have q3 : (o.kind == (3 : Int)) = false := by simpa using c3
          have q4 : (o.kind == (4 : Int)) = false := by simpa using c4
          rw [q1, q2, q3, q4] at h4
          simp at h4
theorem can_all {l : List MEv} (h : canM l = true) : ∀ e ∈ l, ∀ o ∈ e.ops, okK o := fun e he o ho => by
  obtain ⟨j, hj, rfl⟩ := List.mem_iff_getElem.1 he
  have := (can_ev h (k := j) hj).2 o (by rw [List.getD, List.getElem?_eq_getElem hj]; exact ho)
  exact this.1
set_option maxHeartbeats 8000000 in
set_option maxRecDepth 100000 in
theorem txns_is {S : Nat → Prop} (w : World) (v : Value) (l : List MEv) (h : EvsIn S w v l) (hg : w.cell? ⟨0, 0, none⟩ = some (.iface 104 (.agg #[.pointer (some ⟨1, 25, none⟩)]))) :
    Calls Tryd.prog 14 #[v] w fun e w' => ∃ tv a y, e = .returned (.tuple #[tv, errV a y]) ∧ Below w.heap.size w w' ∧ TxnsR l w.heap.size w' tv a y := by
  have hmm := @run_makeMap Tryd.prog
  have CAN := hid (can_any v l w 104 _ hg h)
  cases hcan : canM l with
  | false =>
    rw [hcan] at CAN
    have HC := hid hcan
    clear h hcan
    go_enter Tryd.func14, Tryd.ntmps14
    go_wp2_with (go_at_call 26; refine CAN.out.mono ?_; rintro e w1 ⟨rfl, b1⟩; have B1 := hid b1; clear b1)
    go_ret2
    exact ⟨_, 0, 1, rfl, B1.out, .arg HC.out⟩
  | true =>
    rw [hcan] at CAN
    have HC := hid hcan
    obtain ⟨a1, c1, rfl, hbig, k0⟩ := RowsIn.cells h (by omega)
    have HR := hid k0
    have hl300 : l.length ≤ 300 := by
      unfold canM at hcan
      rw [Bool.and_eq_true, decide_eq_true_eq] at hcan
      exact hcan.1
    have hli : (l.length : Int) ≤ 300 := by omega
    have h0l := World.block_lt_of_cell? _ _ hg
    have HG := hid hg
    clear h hcan k0 hg
    go_enter Tryd.func14, Tryd.ntmps14
    go_upto_region 4 with (go_at_call 26; refine CAN.out.mono ?_; rintro e w1 ⟨rfl, b1⟩; have B1 := hid b1; have hst := pair_store2 w1;  clear b1)
    obtain ⟨p0, t0⟩ := PT.start w1 l
    have BW : Hid (Below w.heap.size w (((w1.alloc (.map #[] 0)).alloc (.map #[] 0)).alloc (.cells (pairC w1.heap.size (w1.heap.size + 1)) 68))) := bstep (below_box _ _) (bstep (below_box _ _) (bstep (below_box _ _) B1.out))
    have hwl : w.heap.size ≤ w1.heap.size := B1.out.size
    clear hst hmm B1
    generalize ((w1.alloc (.map #[] 0)).alloc (.map #[] 0)).alloc (.cells (pairC w1.heap.size (w1.heap.size + 1)) 68) = W0 at *
    generalize Value.agg ((Tryd.zeroCells68.setIfInBounds 1 (Value.map (some w1.heap.size))).setIfInBounds 102 (Value.map (some (w1.heap.size + 1)))) = junk
    generalize w1.heap.size = ob at *
    have P0 := hid p0
    have T0 := hid t0
    clear p0 t0
    go_wp2_with fail
    go_loopg [5, 6, 7, 18] l.length (fun gg _ _ _ i wr => ∃ k : Nat, k ≤ l.length ∧ l.length - k ≤ gg ∧ i = .int .i64 k ∧ Aside (TxI (ob + 3) (ob + 2) ob (ob + 1) W0 l k wr))
    case atStart => exact ⟨0, Nat.zero_le _, by omega, rfl, P0.out, ⟨0, Nat.zero_le _, T0.out⟩, K3.refl _ _ _ _ _, fun j hj => absurd hj (Nat.not_lt_zero _)⟩
    case round =>
      obtain ⟨k, hk, hgk, rfl, AR⟩ := hrel
      have OLD : Hid (∀ b, b < w.heap.size → wr.heap[b]? = w.heap[b]?) := fun b hb => (AR.out.2.2.1.2.2.2.2 b (by omega) (by omega) (by omega) (by omega)).trans (BW.out.block b hb)
      have hszr : W0.heap.size ≤ wr.heap.size := AR.out.2.2.1.2.2.2.1
      have hB0 := P0.out.hB
      have BWR : Hid (Below w.heap.size w wr) := ⟨AR.out.2.2.1.1.trans BW.out.os, AR.out.2.2.1.2.1.trans BW.out.tape, AR.out.2.2.1.2.2.1.trans BW.out.output, Nat.le_trans BW.out.size hszr, OLD.out⟩
      by_cases hlt : k < l.length
      · have hlti : (k : Int) < (l.length : Int) := by omega
        obtain ⟨b1, o1, cs, rfl, hb1, _, ⟨ov, rfl, hov⟩, hcs⟩ := HR.out k hlt
        obtain ⟨⟨q1, q2, q3, q4, q5, q6⟩, q7⟩ := can_ev HC.out hlt
        have d0 : wr.cell? ⟨b1, o1 + k * 3, none⟩ = _ := cell_same (OLD.out b1 hb1) (hcs 0 _ rfl)
        have d1 := cell_same (OLD.out b1 hb1) (hcs 1 _ rfl)
        have d2 := cell_same (OLD.out b1 hb1) (hcs 2 _ rfl)
        obtain ⟨p, hp⟩ : ∃ p : Nat, (l.getD k default).proc = (p : Int) := ⟨(l.getD k default).proc.toNat, by omega⟩
        have hE : l.getD k default = ((l.getD k default).kind, (p : Int), (l.getD k default).ops) := by rw [← hp]
        obtain ⟨hone, hokk⟩ := step_one (can_all HC.out) k (by omega) (fun j hj => AR.out.2.2.2 j hj)
        have hnb : noteB (opsP l k) (l.getD k default).ops = !mixB (opsP l k) (l.getD k default).ops := note_mix hone hokk (fun o ho => (q7 o ho).1)
        rw [hp] at d1 q4
        obtain ⟨oa, oc, rfl, _⟩ := id hov
        have TK : Hid (∀ Wt, Below wr.heap.size wr Wt → Calls Tryd.prog 28 #[.pointer (some ⟨ob + 2, 0, none⟩), .int .i64 (k : Int), .agg #[.int .i64 (l.getD k default).kind, .int .i64 (p : Int), .slice oa (l.getD k default).ops.length oc]] Wt fun e w' => TakeP (ob + 3) (ob + 2) ob (ob + 1) l k Wt e w') := fun Wt hWt => by
          obtain ⟨m, hm, hT⟩ := AR.out.2.1
          exact take_is (S := fun b => b < w.heap.size) Wt (ob + 3) (ob + 2) ob (ob + 1) l k p _ _ _ (AR.out.1.keep hWt.size (fun b hb _ => hWt.block b hb)) ⟨m, hm, hT.same (hWt.block _ hT.lt)⟩ hE (by omega) (by omega) q6 hnb (fun o ho => (q7 o ho).1) (fun o ho => Nat.le_trans (q7 o ho).2 (by decide)) (hov.keep (fun b _ hb => (hWt.block b (Nat.lt_of_lt_of_le hb BWR.out.size)).trans (OLD.out b hb)) (fun b hb _ => hb)) (fun b hb => ⟨by omega, by omega⟩)
        have hkd : ∀ o o', Hid (Below wr.heap.size wr ((wr.alloc o).alloc o')) := fun o o' => bstep (below_box _ _) (below_box _ _)
        have hr : ob + 3 ≤ wr.heap.size := AR.out.1.hB
        generalize (l.getD k default).kind = ek at *
        generalize (l.getD k default).ops = O at *
        clear hcs hov hone hokk hnb hE hp q1 q2 q3 q4 q5 q6 q7
        by_cases hs : stepE l k = 0
        · have HS := hid hs
          have TK0 : Hid (∀ Wt, Below wr.heap.size wr Wt → Calls Tryd.prog 28 #[.pointer (some ⟨ob + 2, 0, none⟩), .int .i64 (k : Int), .agg #[.int .i64 ek, .int .i64 (p : Int), .slice oa O.length oc]] Wt fun e w' => e = .returned .nilIface ∧ TxI (ob + 3) (ob + 2) ob (ob + 1) W0 l (k + 1) w') := fun Wt hWt => (TK.out Wt hWt).mono fun e w' ⟨h1, h2, h3, _⟩ => by
            obtain ⟨h4, h5⟩ := h3 HS.out
            refine ⟨by rw [h1, HS.out]; rfl, h4, h5, AR.out.2.2.1.trans ((K3.of_below hWt hr).trans h2), fun j hj => ?_⟩
            by_cases e : j = k
            · rw [e]; exact HS.out
            · exact AR.out.2.2.2 j (by omega)
          clear TK hs
          go_wp2_with (first | (go_at_call 28; refine (TK0.out _ (hkd _ _).out).mono ?_; rintro e w2 ⟨rfl, h2⟩; have H2 := hid h2; clear h2) | (go_at_call 27; refine (as_nil _ _).mono ?_; rintro e w3 ⟨rfl, rfl⟩))
          go_roundg (l.length - (k + 1))
          case measure => omega
          case rel => exact ⟨k + 1, by omega, by omega, by go_num, H2.out⟩
        · have HS := hid hs
          have TK1 : Hid (∀ Wt, Below wr.heap.size wr Wt → Calls Tryd.prog 28 #[.pointer (some ⟨ob + 2, 0, none⟩), .int .i64 (k : Int), .agg #[.int .i64 ek, .int .i64 (p : Int), .slice oa O.length oc]] Wt fun e w' => e = .returned (.iface 62 (.agg #[.int .i64 (k : Int), .int .i64 (stepE l k)])) ∧ ButB (ob + 1) Wt w') := fun Wt hWt => (TK.out Wt hWt).mono fun e w' ⟨h1, h2, h3, h4⟩ => ⟨by rw [h1]; unfold errV; rw [if_neg HS.out], h4 HS.out⟩
          have FIN : Hid (∀ w3, (∀ b, b < w.heap.size → w3.heap[b]? = wr.heap[b]?) → w3.os = wr.os → w3.tape = wr.tape → w3.output = wr.output → wr.heap.size ≤ w3.heap.size → Below w.heap.size w w3 ∧ TxnsR l w.heap.size w3 (.slice none 0 0) (k : Int) (stepE l k)) := fun w3 a1 a2 a3 a4 a5 => ⟨⟨a2.trans BWR.out.os, a3.trans BWR.out.tape, a4.trans BWR.out.output, Nat.le_trans BWR.out.size a5, fun b hb => (a1 b hb).trans (OLD.out b hb)⟩, .bad HC.out k hlt (fun j hj => AR.out.2.2.2 j hj) HS.out⟩
          have EV : Hid (errV (k : Int) (stepE l k) = .iface 62 (.agg #[.int .i64 (k : Int), .int .i64 (stepE l k)])) := by show _ = _; unfold errV; rw [if_neg HS.out]
          have hgr : wr.cell? ⟨0, 0, none⟩ = some (.iface 104 (.agg #[.pointer (some ⟨1, 25, none⟩)])) := cell_same (OLD.out 0 h0l) HG.out
          obtain ⟨s, hse⟩ : ∃ s, stepE l k = s := ⟨_, rfl⟩
          rw [hse] at TK1 FIN EV
          clear TK hs HS hse AR
          have WT : ∀ o : Obj, Hid (∀ i : Nat, ((wr.alloc o).alloc (.cells #[.int .i64 0, .int .i64 0] 62)).cell? ⟨wr.heap.size + 1, i, none⟩ = (#[.int .i64 0, .int .i64 0] : Array Value)[i]?) := fun o i => by
            rw [show wr.heap.size + 1 = (wr.alloc o).heap.size by simp]
            exact new_cells _ _ 62 i
          have WF : ∀ o : Obj, Hid (∀ i : Nat, ((wr.alloc o).alloc (.cells #[.int .i64 0, .int .i64 0] 62)).frozen? ⟨wr.heap.size + 1, i, none⟩ = false) := fun o i => by
            rw [show wr.heap.size + 1 = (wr.alloc o).heap.size by simp]
            exact Lib.frozen_of_heap (heap_alloc_new _ _) i
          have hwr0 : 0 < wr.heap.size := by omega
          go_wp2_with (first
            | (go_at_call 28; refine (TK1.out _ (hkd _ _).out).mono ?_; rintro e w2 ⟨rfl, h2⟩; have H2 := hid h2; have ef := h2.2.2.2.2 (wr.heap.size + 1) (by simp) (by omega); have e0 := cell_same ef ((WT _).out 0); have e1 := cell_same ef ((WT _).out 1); have f0 := (frozen_same ef 0).trans ((WF _).out 0); have f1 := (frozen_same ef 1).trans ((WF _).out 1); have g2 := cell_same (h2.2.2.2.2 0 (by simp) (by omega)) (cell_later (hkd _ _).out hgr); clear h2 ef)
            | (go_at_call 27; refine (as_hit2 (k : Int) s (wr.heap.size + 1) _ _ w2 g2 e0 e1 f0 f1).mono ?_; rintro e w3 ⟨rfl, c0, c1, b3⟩; have B3 := hid b3; clear b3 e0 e1 f0 f1 g2))
          go_quiet (fail)
          go_wp2_with fail
          go_ret2
          have hb2 := H2.out
          have hb3 := B3.out
          have hkw := (hkd (.cells #[.int .i64 ek, .int .i64 (p : Int), .slice oa O.length oc] 42) (.cells #[.int .i64 0, .int .i64 0] 62)).out
          obtain ⟨r1, r2⟩ := FIN.out (w3.drewN nq) (fun b hb => (hb3.2.2.2.2 b (by have := hb2.2.2.2.1; have := hkw.size; omega) (by omega)).trans ((hb2.2.2.2.2 b (by have := hkw.size; omega) (by omega)).trans (hkw.block b (by omega)))) (hb3.1.trans (hb2.1.trans hkw.os)) (hb3.2.1.trans (hb2.2.1.trans hkw.tape)) (hb3.2.2.1.trans (hb2.2.2.1.trans hkw.output)) (Nat.le_trans hkw.size (Nat.le_trans hb2.2.2.2.1 hb3.2.2.2.1))
          exact ⟨_, (k : Int), s, by rw [EV.out]; rfl, r1, r2⟩
      · have hke : k = l.length := by omega
        subst hke
        have hlti : ¬ ((l.length : Int) < (l.length : Int)) := by omega
        obtain ⟨tv, rows, ct, hout⟩ := AR.out.1.tx
        have FIN : Hid (Below w.heap.size w wr ∧ TxnsR l w.heap.size wr tv 0 0) := ⟨BWR.out, .good HC.out (fun j hj => AR.out.2.2.2 j hj) tv rows (hout.lower txR_keep (by omega))⟩
        obtain ⟨ta, tc, rfl⟩ := own_slice hout.own
        clear hout AR
        go_wp2_with fail
        go_ret2
        exact ⟨_, 0, 0, rfl, FIN.out.1, FIN.out.2⟩
theorem check_is {S : Nat → Prop} (w : World) (v : Value) (l : List MEv) (h : EvsIn S w v l) (hg : w.cell? ⟨0, 0, none⟩ = some (.iface 104 (.agg #[.pointer (some ⟨1, 25, none⟩)]))) :
    Calls Tryd.prog 10 #[v] w fun e w' => ∃ tv a y, e = .returned (errV a y) ∧ Below w.heap.size w w' ∧ TxnsR l w.heap.size w' tv a y := by
  have TX := hid (txns_is w v l h hg)
  clear h
  go_enter Tryd.func10, Tryd.ntmps10
  go_wp2_with (go_at_call 14; refine TX.out.mono ?_; rintro e w1 ⟨tv, a, y, rfl, b1, t1⟩; have B1 := hid b1; have T1 := hid t1; clear b1 t1)
  go_ret
  exact ⟨tv, a, y, rfl, B1.out, T1.out⟩
end Go.Proofs.YtjobdfgcgnpppaaDoor
namespace Go.Proofs.YtjobdfgcgnpppaaDoor
set_option linter.unusedVariables false
set_option linter.unusedSimpArgs false
open Go.RowKit Go.Lib Go.Maps

/-- The five cells of a transaction. -/
def TxnRow (S : Nat → Prop) (w : World) (cs : List Value) (t : MTx) : Prop := ∃ ov, cs = [.int .i64 t.proc, .int .i64 t.state, .int .i64 t.since, .int .i64 t.till, ov] ∧ OpsIn S w ov t.ops
def TxnsIn (S : Nat → Prop) (w : World) (v : Value) (l : List MTx) : Prop := RowsIn 5 56 (TxnRow S w) S w v l
theorem TxnsIn.keep {S T : Nat → Prop} {w w' : World} {v : Value} {l : List MTx} (h : TxnsIn S w v l) (hk : KeepsIn S w w') (hT : ∀ b, b < w.heap.size → S b → T b) : TxnsIn T w' v l :=
  RowsIn.keep h (by omega) (fun cs x ⟨ov, h1, h2⟩ => ⟨ov, h1, h2.keep hk hT⟩) hk hT
theorem OutInv.txns {B n : Nat} {w : World} {v : Value} {rows : List (List Value)} {l : List MTx} (h : OutInv 44 5 TxR B w v n rows l) (hn : n ≤ 1000) : TxnsIn (fun b => B ≤ b) w v l := by
  have q := OutInv.rows_in (bytes := 56) txR_keep h (by omega)
  exact RowsIn.keep q (by omega) (fun cs x ⟨ov, h1, h2⟩ => ⟨ov, h1, h2.rows⟩) (fun _ _ _ => rfl) (fun _ _ hb => hb)
abbrev txC (t : MTx) (v : Value) : Array Value := #[.int .i64 t.proc, .int .i64 t.state, .int .i64 t.since, .int .i64 t.till, v]
set_option maxHeartbeats 4000000 in
set_option maxRecDepth 100000 in
theorem sameTxn_is {S T : Nat → Prop} (w : World) (t : MTx) (v1 v2 : Value) (h1 : OpsIn S w v1 t.ops) (h2 : OpsIn T w v2 t.ops) :
    Calls Tryd.prog 30 #[.agg (txC t v1), .agg (txC t v2)] w fun e w' => e = .returned (.bool true) ∧ Below w.heap.size w w' := by
  have CS : Hid (∀ W, Below w.heap.size w W → Calls Tryd.prog 25 #[v1, v2] W fun e w' => e = .returned (.bool true) ∧ Below W.heap.size W w') := fun W hb => (sameOps_any v1 v2 t.ops t.ops W (h1.keep (keeps_below hb) (fun _ _ h => h)) (h2.keep (keeps_below hb) (fun _ _ h => h))).mono fun e w' ⟨q1, q2⟩ => ⟨by rw [q1, show opsEq t.ops t.ops = true from allEq_refl _ opEq_refl _], q2⟩
  obtain ⟨a1, c1, rfl, _⟩ := h1
  obtain ⟨a2, c2, rfl, _⟩ := h2
  obtain ⟨xp, xs, xf, xt, xo⟩ := t
  simp only [MTx.proc, MTx.state, MTx.since, MTx.till, MTx.ops] at *
  have BB : ∀ x y, Hid (Below w.heap.size w ((w.alloc x).alloc y)) := fun x y => ((Below.refl _ w).alloc (Nat.le_refl _) x).alloc (by show w.heap.size ≤ (w.heap.push x).size; simp) y
  go_enter Tryd.func30, Tryd.ntmps30
  go_wp2_with (go_at_call 25; refine (CS.out _ (BB _ _).out).mono ?_; rintro e w' ⟨rfl, hb⟩; have HB := hid hb; clear hb)
  go_ret
  exact ⟨rfl, (BB _ _).out.trans (HB.out.mono (BB _ _).out.size)⟩
set_option maxHeartbeats 4000000 in
set_option maxRecDepth 100000 in
theorem equalTx_is {S T : Nat → Prop} (w : World) (l : List MTx) (a1 a2 : Option Addr) (c1 c2 : Nat) (hl : l.length ≤ 1000) (h1 : TxnsIn S w (.slice a1 l.length c1) l) (h2 : TxnsIn T w (.slice a2 l.length c2) l) :
    Calls Tryd.prog 29 #[.slice a1 l.length c1, .slice a2 l.length c2, .func (.func 30) #[] #[]] w fun e w' => e = .returned (.bool true) ∧ Below w.heap.size w w' := by
  obtain ⟨x1, y1, e1, l1, k1⟩ := RowsIn.cells h1 (by omega)
  obtain ⟨x2, y2, e2, l2, k2⟩ := RowsIn.cells h2 (by omega)
  obtain ⟨rfl, _, rfl⟩ := Value.slice.inj e1
  obtain ⟨rfl, _, rfl⟩ := Value.slice.inj e2
  have H1 := hid k1
  have H2 := hid k2
  have hli : (l.length : Int) ≤ 1000 := by omega
  clear h1 h2 k1 k2 e1 e2
  go_enter Tryd.func29, Tryd.ntmps29
  go_wp2_with fail
  go_loopg [7, 8, 9, 17] l.length (fun gg _ _ _ i wr => ∃ k : Nat, k ≤ l.length ∧ l.length - k ≤ gg ∧ i = .int .i64 k ∧ Aside (Below w.heap.size w wr))
  case atStart => exact ⟨0, Nat.zero_le _, by omega, rfl, Below.refl _ _⟩
  case round =>
    obtain ⟨k, hk, hgk, rfl, BR⟩ := hrel
    by_cases hlt : k < l.length
    · have hlti : (k : Int) < l.length := by omega
      obtain ⟨b, o, cs, rfl, hbl, _, ⟨ov, hcs, hops⟩, hcell⟩ := H1.out k hlt
      subst hcs
      obtain ⟨b', o', cs', rfl, hbl', _, ⟨ov', hcs', hops'⟩, hcell'⟩ := H2.out k hlt
      subst hcs'
      have d0 := (BR.out.cell (p := ⟨b, o + k * 5 + 0, none⟩) hbl).trans (hcell 0 _ rfl)
      have d1 := (BR.out.cell (p := ⟨b, o + k * 5 + 1, none⟩) hbl).trans (hcell 1 _ rfl)
      have d2 := (BR.out.cell (p := ⟨b, o + k * 5 + 2, none⟩) hbl).trans (hcell 2 _ rfl)
      have d3 := (BR.out.cell (p := ⟨b, o + k * 5 + 3, none⟩) hbl).trans (hcell 3 _ rfl)
      have d4 := (BR.out.cell (p := ⟨b, o + k * 5 + 4, none⟩) hbl).trans (hcell 4 _ rfl)
      rw [Nat.add_zero] at d0
      have f0 := (BR.out.cell (p := ⟨b', o' + k * 5 + 0, none⟩) hbl').trans (hcell' 0 _ rfl)
      have f1 := (BR.out.cell (p := ⟨b', o' + k * 5 + 1, none⟩) hbl').trans (hcell' 1 _ rfl)
      have f2 := (BR.out.cell (p := ⟨b', o' + k * 5 + 2, none⟩) hbl').trans (hcell' 2 _ rfl)
      have f3 := (BR.out.cell (p := ⟨b', o' + k * 5 + 3, none⟩) hbl').trans (hcell' 3 _ rfl)
      have f4 := (BR.out.cell (p := ⟨b', o' + k * 5 + 4, none⟩) hbl').trans (hcell' 4 _ rfl)
      rw [Nat.add_zero] at f0
      have hbw : b' < wr.heap.size := Nat.lt_of_lt_of_le hbl' BR.out.size
      have HO := hid hops
      have HO' := hid hops'
      clear hcell hcell' hops hops'
      generalize l.getD k default = t at *
      obtain ⟨oa, oc, hov, _⟩ := id HO.out
      subst hov
      obtain ⟨oa', oc', hov', _⟩ := id HO'.out
      subst hov'
      have BB : ∀ x y, Hid (Below w.heap.size w ((wr.alloc x).alloc y)) := fun x y => (BR.out.alloc BR.out.size x).alloc (by rw [World.size_alloc]; have := BR.out.size; omega) y
      have ST : Hid (∀ W, Below w.heap.size w W → Calls Tryd.prog 30 #[.agg (txC t (.slice oa t.ops.length oc)), .agg (txC t (.slice oa' t.ops.length oc'))] W fun e w' => e = .returned (.bool true) ∧ Below W.heap.size W w') := fun W hb => sameTxn_is W t _ _ (HO.out.keep (keeps_below hb) (fun _ _ h => h)) (HO'.out.keep (keeps_below hb) (fun _ _ h => h))
      go_wp2_with (go_at_call 30; refine (ST.out _ (BB _ _).out).mono ?_; rintro e w9 ⟨rfl, b9⟩; have B9 := hid b9; clear b9)
      go_roundg (l.length - (k + 1))
      case measure => omega
      case rel => exact ⟨k + 1, by omega, by omega, by go_num, (BB _ _).out.trans (B9.out.mono (BB _ _).out.size)⟩
    · go_wp2_with fail
      go_ret
      exact ⟨rfl, BR.out⟩
theorem sameTxns_is {S T : Nat → Prop} (w : World) (l : List MTx) (a1 a2 : Option Addr) (c1 c2 : Nat) (hl : l.length ≤ 1000) (h1 : TxnsIn S w (.slice a1 l.length c1) l) (h2 : TxnsIn T w (.slice a2 l.length c2) l) :
    Calls Tryd.prog 16 #[.slice a1 l.length c1, .slice a2 l.length c2] w fun e w' => e = .returned (.bool true) ∧ Below w.heap.size w w' := by
  have H := hid (equalTx_is w l a1 a2 c1 c2 hl h1 h2)
  clear h1 h2
  go_enter Tryd.func16, Tryd.ntmps16
  go_wp2_with (go_at_call 29; refine H.out.mono ?_; rintro e w' ⟨rfl, hb⟩)
  go_ret
  exact ⟨rfl, hb⟩
end Go.Proofs.YtjobdfgcgnpppaaDoor
namespace Go.Proofs.YtjobdfgcgnpppaaDoor
set_option linter.unusedVariables false
set_option linter.unusedSimpArgs false
open Go.RowKit Go.Lib

/-- Blocks outside P stay. -/
structure Gro (P : Nat → Prop) (w w' : World) : Prop where
  os : w'.os = w.os
  tape : w'.tape = w.tape
  output : w'.output = w.output
  size : w.heap.size ≤ w'.heap.size
  block : ∀ b, b < w.heap.size → ¬ P b → w'.heap[b]? = w.heap[b]?
theorem Gro.refl (P : Nat → Prop) (w : World) : Gro P w w := ⟨rfl, rfl, rfl, Nat.le_refl _, fun _ _ _ => rfl⟩
/-- A list that may be written. -/
def SpL (P : Nat → Prop) (w : World) (lv : Value) : Prop := ∃ la m lc, lv = .slice la m lc ∧ m ≤ 140737488355328 ∧ ∀ j, j < m → ∃ lb lo x, la = some ⟨lb, lo, none⟩ ∧ P lb ∧ Soft w lb ∧ w.cell? ⟨lb, lo + j, none⟩ = some (.int .i64 x)
/-- Operations that may be written. -/
def SpO (P : Nat → Prop) (w : World) (ov : Value) : Prop := ∃ oa n oc, ov = .slice oa n oc ∧ n ≤ 10 ∧ n ≤ oc ∧ ∀ k, k < n → ∃ ob key val lv, oa = some ⟨ob, 0, none⟩ ∧ P ob ∧ Soft w ob ∧ w.cell? ⟨ob, k * 6 + 1, none⟩ = some (.string key) ∧ key.size ≤ 281474976710656 ∧ w.cell? ⟨ob, k * 6 + 2, none⟩ = some (.int .i64 val) ∧ w.cell? ⟨ob, k * 6 + 3, none⟩ = some lv ∧ SpL P w lv
/-- Transactions that may be written. -/
def SpT (P : Nat → Prop) (w : World) (v : Value) (N : Nat) : Prop := ∃ ta c, v = .slice ta N c ∧ N ≤ 1000 ∧ N ≤ c ∧ ∀ i, i < N → ∃ tb st ov, ta = some ⟨tb, 0, none⟩ ∧ P tb ∧ Soft w tb ∧ w.cell? ⟨tb, i * 5 + 1, none⟩ = some (.int .i64 st) ∧ w.cell? ⟨tb, i * 5 + 4, none⟩ = some ov ∧ SpO P w ov

theorem gro_set {P : Nat → Prop} {w w' : World} (h : Gro P w w') {p : Addr} (hp : P p.block) (v : Value) : Gro P w (w'.setCell p v) :=
  ⟨h.os, h.tape, h.output, by have := h.size; simp [World.setCell]; omega, fun b hb hn => (set_ne (fun e : b = p.block => hn (by rw [e]; exact hp))).trans (h.block b hb hn)⟩
/-- Each cell keeps its kind; what lies ahead of B is as it was. -/
structure Sp (P : Nat → Prop) (M : Nat) (w w' : World) : Prop where
  bel : Gro P w w'
  fz : ∀ p, w'.frozen? p = w.frozen? p
  int : ∀ p n, w.cell? p = some (.int .i64 n) → ∃ m, w'.cell? p = some (.int .i64 m)
  str : ∀ p s, w.cell? p = some (.string s) → ∃ t : ByteArray, w'.cell? p = some (.string t) ∧ t.size ≤ s.size + M
  sli : ∀ p a n c, w.cell? p = some (.slice a n c) → w'.cell? p = some (.slice a n c)
theorem Sp.refl (P : Nat → Prop) (w : World) : Sp P 0 w w := ⟨⟨rfl, rfl, rfl, Nat.le_refl _, fun _ _ _ => rfl⟩, fun _ => rfl, fun _ n h => ⟨n, h⟩, fun _ s h => ⟨s, h, Nat.le_refl _⟩, fun _ _ _ _ h => h⟩
theorem Sp.more {P : Nat → Prop} {M M' : Nat} {w w' : World} (h : Sp P M w w') (hM : M ≤ M') : Sp P M' w w' := ⟨h.bel, h.fz, h.int, fun p s hp => by obtain ⟨t, h1, h2⟩ := h.str p s hp; exact ⟨t, h1, by omega⟩, h.sli⟩
theorem Sp.setI {P : Nat → Prop} {M : Nat} {w w' : World} (h : Sp P M w w') (p : Addr) (hp : P p.block) (n m : Int) (hc : w.cell? p = some (.int .i64 n)) : Sp P M w (w'.setCell p (.int .i64 m)) := by
  obtain ⟨x, hx⟩ := h.int p n hc
  refine ⟨gro_set h.bel hp _, fun q => by rw [World.frozen?_setCell]; exact h.fz q, fun q k hq => ?_, fun q s hq => ?_, fun q a k c hq => ?_⟩
  · by_cases e : p = q
    · subst e; exact ⟨m, World.cell?_setCell_same _ _ _ hx⟩
    · rw [World.cell?_setCell_other _ _ _ _ e]; exact h.int q k hq
  · rw [World.cell?_setCell_other _ _ _ _ (fun e => by subst e; rw [hc] at hq; cases hq)]; exact h.str q s hq
  · rw [World.cell?_setCell_other _ _ _ _ (fun e => by subst e; rw [hc] at hq; cases hq)]; exact h.sli q a k c hq
theorem Sp.setS {P : Nat → Prop} {M : Nat} {w w' : World} (h : Sp P M w w') (p : Addr) (hp : P p.block) (s t t' : ByteArray) (hc : w.cell? p = some (.string s)) (hc' : w'.cell? p = some (.string t)) (ht : t'.size ≤ t.size + 1) : Sp P (M + 1) w (w'.setCell p (.string t')) := by
  refine ⟨gro_set h.bel hp _, fun q => by rw [World.frozen?_setCell]; exact h.fz q, fun q k hq => ?_, fun q u hq => ?_, fun q a k c hq => ?_⟩
  · rw [World.cell?_setCell_other _ _ _ _ (fun e => by subst e; rw [hc] at hq; cases hq)]; exact h.int q k hq
  · obtain ⟨x, h1, h2⟩ := h.str q u hq
    by_cases e : p = q
    · subst e
      rw [hc'] at h1
      cases h1
      exact ⟨t', World.cell?_setCell_same _ _ _ hc', by omega⟩
    · rw [World.cell?_setCell_other _ _ _ _ e]; exact ⟨x, h1, by omega⟩
  · rw [World.cell?_setCell_other _ _ _ _ (fun e => by subst e; rw [hc] at hq; cases hq)]; exact h.sli q a k c hq

set_option maxHeartbeats 16000000 in
set_option maxRecDepth 100000 in
theorem spoil_is (P : Nat → Prop) (w : World) (v : Value) (N : Nat) (h : SpT P w v N) :
    Calls Tryd.prog 17 #[v] w fun e w' => e = .returned (.tuple #[]) ∧ Gro P w w' := by
  obtain ⟨ta, tc, rfl, hN, hNc, hT⟩ := h
  have HT := hid hT
  have hNi : (N : Int) ≤ 1000 := by omega
  clear hT
  go_enter Tryd.func17, Tryd.ntmps17
  go_wp2_with fail
  go_loopg [2, 3, 4, 7] N (fun gg _ _ _ i wr => ∃ k : Nat, k ≤ N ∧ N - k ≤ gg ∧ i = .int .i64 k ∧ Aside (Sp P (10 * k) w wr))
  case atStart => exact ⟨0, Nat.zero_le _, by omega, rfl, Sp.refl _ _⟩
  case round =>
    obtain ⟨k, hk, hgk, rfl, SR⟩ := hrel
    by_cases hlt : k < N
    · have hlti : (k : Int) < N := by omega
      obtain ⟨tb, st, ov, rfl, hBt, hsf, d1, d4, oa, n, oc, rfl, hn, hnc, hO⟩ := HT.out k hlt
      have HO := hid hO
      have D1 := hid d1
      have D4 := hid d4
      have FT : Hid (∀ o, w.frozen? ⟨tb, o, none⟩ = false) := hsf
      have e4 := SR.out.sli _ _ _ _ d4
      have hni : (n : Int) ≤ 10 := by omega
      clear hO d1 d4 hsf
      go_wp2_with fail
      go_loopg [3, 4, 16] n (fun gg _ _ i wi => ∃ j : Nat, j ≤ n ∧ n - j ≤ gg ∧ i = .int .i64 j ∧ Aside (Sp P (10 * k + j) w wi))
      case atStart => exact ⟨0, Nat.zero_le _, by omega, rfl, SR.out⟩
      case round =>
        clear SR e4
        obtain ⟨j, hj, hgj, rfl, SJ⟩ := hrel
        have e4 := SJ.out.sli _ _ _ _ D4.out
        by_cases hjl : j < n
        · have hjli : (j : Int) < n := by omega
          obtain ⟨ob, key, val, lv, rfl, hBo, hso, x1, hks, x2, x3, la, m, lc, rfl, hm, hL⟩ := HO.out j hjl
          have HL := hid hL
          have X1 := hid x1
          have X2 := hid x2
          have X3 := hid x3
          have FO : Hid (∀ o, w.frozen? ⟨ob, o, none⟩ = false) := hso
          have y3 := SJ.out.sli _ _ _ _ x3
          have hmi : (m : Int) ≤ 140737488355328 := by omega
          clear hL x1 x2 x3 hso
          go_wp2_with fail
          go_loopg [4, 29] m (fun gg _ i wq => ∃ q : Nat, q ≤ m ∧ m - q ≤ gg ∧ i = .int .i64 q ∧ Aside (Sp P (10 * k + j) w wq))
          case atStart => exact ⟨0, Nat.zero_le _, by omega, rfl, SJ.out⟩
          case round =>
            clear SJ e4 y3
            obtain ⟨q, hq, hgq, rfl, SQ⟩ := hrel
            have e4 := SQ.out.sli _ _ _ _ D4.out
            have y3 := SQ.out.sli _ _ _ _ X3.out
            by_cases hql : q < m
            · have hqli : (q : Int) < m := by omega
              obtain ⟨lb, lo, x, rfl, hBl, hsl, z⟩ := HL.out q hql
              have Z := hid z
              obtain ⟨x', z'⟩ := SQ.out.int _ _ z
              have f1 : wr.frozen? ⟨lb, lo + q, none⟩ = false := (SQ.out.fz _).trans (hsl _)
              clear z hsl
              go_wp2_with fail
              go_roundg (m - (q + 1))
              case measure => omega
              case rel => exact ⟨q + 1, by omega, by omega, by go_num, SQ.out.setI _ hBl _ _ Z.out⟩
            · obtain ⟨x', z'⟩ := SQ.out.int _ _ X2.out
              have f1 : wr.frozen? ⟨ob, j * 6 + 2, none⟩ = false := (SQ.out.fz _).trans (FO.out _)
              have NX : Hid (∀ y, Sp P (10 * k + j) w (wr.setCell ⟨ob, j * 6 + 2, none⟩ (.int .i64 y))) := fun y => SQ.out.setI _ hBo _ _ X2.out
              clear SQ
              go_upto_region 12 with fail
              generalize hW : wr.setCell ⟨ob, j * 6 + 2, none⟩ _ = W
              have SW : Hid (Sp P (10 * k + j) w W) := by rw [← hW]; exact NX.out _
              clear hW NX e4 y3 z' f1
              have e4 := SW.out.sli _ _ _ _ D4.out
              obtain ⟨t, z1, ht⟩ := SW.out.str _ _ X1.out
              have f2 : W.frozen? ⟨ob, j * 6 + 1, none⟩ = false := (SW.out.fz _).trans (FO.out _)
              have SA : ∀ w, Sem.run Tryd.prog (Op.stringOp .add t ⟨#[122]⟩) w = .ok (.string (t ++ ⟨#[122]⟩)) w := fun w => run_string_add_sum w _ _ (by show t.size + 1 ≤ _; omega)
              have NX : Hid (Sp P (10 * k + (j + 1)) w (W.setCell ⟨ob, j * 6 + 1, none⟩ (.string (t ++ ⟨#[122]⟩)))) := SW.out.setS _ hBo _ _ _ X1.out z1 (by rw [ByteArray.size_append]; exact Nat.le_refl _)
              go_wp2_with fail
              go_roundg (n - (j + 1))
              case measure => omega
              case rel => exact ⟨j + 1, by omega, by omega, by go_num, NX.out⟩
        · obtain ⟨x', z'⟩ := SJ.out.int _ _ D1.out
          have f1 : wr.frozen? ⟨tb, k * 5 + 1, none⟩ = false := (SJ.out.fz _).trans (FT.out _)
          go_wp2_with fail
          go_roundg (N - (k + 1))
          case measure => omega
          case rel => exact ⟨k + 1, by omega, by omega, by go_num, (SJ.out.setI _ hBt _ _ D1.out).more (by omega)⟩
    · go_wp2_with fail
      exact bodyPost_end (results_none rfl _ _ _) rfl ⟨rfl, SR.out.bel⟩
theorem spo_of {S P : Nat → Prop} {w : World} {v : Value} {l : List MOp} (h : OpsOwn S w v l) (hS : ∀ b, b < w.heap.size → S b → P b) (hl : l.length ≤ 10) (hk : ∀ o ∈ l, o.key.size ≤ 281474976710656) : SpO P w v := by
  obtain ⟨ao, c, rfl, hb, hc⟩ := h
  refine ⟨ao, l.length, c, rfl, hl, hb.2, fun k hk' => ?_⟩
  obtain ⟨b, rfl, hSb, hf, hj⟩ := hc (by omega)
  obtain ⟨cs, h1, ⟨lv, rfl, h2⟩, h3⟩ := hj k hk'
  have hbl := World.block_lt_of_cell? _ _ (h3 1 _ rfl)
  refine ⟨b, _, _, lv, rfl, hS b hbl hSb, hf, h3 1 _ rfl, hk _ (by simp [List.getD, List.getElem?_eq_getElem hk']), h3 2 _ rfl, h3 3 _ rfl, ?_⟩
  obtain ⟨la, lc, rfl, hll, hcc⟩ := h2
  refine ⟨la, _, lc, rfl, by omega, fun j hj' => ?_⟩
  obtain ⟨b2, off, rfl, hs2, hx⟩ := hcc (by omega)
  exact ⟨b2, off, _, rfl, hS b2 (World.block_lt_of_cell? _ _ (hx j hj')) hs2.1.1, hs2.2, hx j hj'⟩
theorem spt_of {B n : Nat} {w : World} {v : Value} {rows : List (List Value)} {l : List MTx} (h : OutInv 44 5 TxR B w v n rows l) (hn : n ≤ 1000) (hten : ∀ t ∈ l, t.ops.length ≤ 10 ∧ ∀ o ∈ t.ops, o.key.size ≤ 281474976710656) : SpT (fun b => B ≤ b) w v n := by
  rcases h.own.2 with ⟨rfl, rfl⟩ | ⟨g, cap, cur, rfl, hg, hh, hc, _⟩
  · exact ⟨none, 0, rfl, by decide, Nat.le_refl _, fun i hi => absurd hi (Nat.not_lt_zero _)⟩
  · refine ⟨some ⟨g, 0, none⟩, cap, rfl, hn, hc, fun i hi => ?_⟩
    obtain ⟨ov, hrow, hov⟩ := h.each i hi
    have cell : ∀ q u, (rows.getD i [])[q]? = some u → q < 5 → w.cell? ⟨g, i * 5 + q, none⟩ = some u := fun q u hq h5 => by
      have := h.own.cells (g := g) rfl (i * 5 + q) u (by rw [flatten_get 5 rows _ _ h.sizes (by rw [h.rn]; exact hi) h5]; exact hq)
      rw [Addr.add_lit] at this
      simpa using this
    have hm : l.getD i default ∈ l := by simp [List.getD, List.getElem?_eq_getElem (show i < l.length by rw [h.ln]; exact hi)]
    exact ⟨g, _, ov, rfl, hg, fun o => Lib.frozen_of_heap hh o, cell 1 _ (by rw [hrow]; rfl) (by decide), cell 4 _ (by rw [hrow]; rfl) (by decide), spo_of hov (fun b _ hb => hb.1) (hten _ hm).1 (hten _ hm).2⟩
end Go.Proofs.YtjobdfgcgnpppaaDoor
