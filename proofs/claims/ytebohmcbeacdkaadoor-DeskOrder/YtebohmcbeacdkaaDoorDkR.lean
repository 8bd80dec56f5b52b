/-
  For whatever three bools and number, options in any order, and twice, are read as the document says: the last steps counts. No condition beyond the form's own reach; the listed package variables are as the program's text lays them.
-/
import Derived.Test.YtebohmcbeacdkaaDoorCards
import Derived.Test.YtebohmcbeacdkaaDoorTie
import Derived.Test.YtebohmcbeacdkaaDoorStart
import Derived.Test.YtebohmcbeacdkaaDoorDk7a
import Derived.Test.YtebohmcbeacdkaaDoorDk7b
import Derived.Test.YtebohmcbeacdkaaDoorDk7c
import Derived.OpenShut
namespace Go.Proofs.YtebohmcbeacdkaaDoor
set_option linter.unusedVariables false
set_option linter.unusedSimpArgs false
open Go.ChangeShapes Go.WideShapes Go.ChangeAt Go.RowKit

/-- There is a world that holds what the listed variables are laid as. -/
theorem start_exO (os : Os) : ∃ w0 : World, w0.os = os ∧
    (w0.forCall (fun _ _ => 0) ⟨#[], #[.bool false, .bool false, .bool false, .int .i64 0], []⟩).variablesRefB Tryd.prog = true ∧
    ((w0.forCall (fun _ _ => 0) ⟨#[], #[.bool false, .bool false, .bool false, .int .i64 0], []⟩).heap.toList.drop Tryd.prog.globals.size).take ((begin Tryd.prog (fun _ _ => 0) default).world.heap.size - Tryd.prog.globals.size) =
      (begin Tryd.prog (fun _ _ => 0) default).world.heap.toList.drop Tryd.prog.globals.size ∧
    Input.okWideB Tryd.prog (w0.forCall (fun _ _ => 0) ⟨#[], #[.bool false, .bool false, .bool false, .int .i64 0], []⟩) 4 ⟨#[], #[.bool false, .bool false, .bool false, .int .i64 0], []⟩ = true ∧
    laidMet Tryd.prog Rows.deskOrderRow.laid (w0.forCall (fun _ _ => 0) ⟨#[], #[.bool false, .bool false, .bool false, .int .i64 0], []⟩).memory ∧
    (∀ (H : Type) (enc : TypeId × Value → H), ∃ places, DataW.whole enc Tryd.prog (w0.forCall (fun _ _ => 0) ⟨#[], #[.bool false, .bool false, .bool false, .int .i64 0], []⟩).memory Tryd.f4.params.toList Rows.deskOrderSpec.vars false #[Value.bool false, .bool false, .bool false, .int .i64 0].toList 8 = some ([.lit (.bool false), .lit (.bool false), .lit (.bool false), .lit (.int .i64 0)], [], places)) ∧
    (∀ (H : Type) (enc : TypeId × Value → H), (OpenSpec.ofChange Rows.deskOrderSpec).bare.sizedB enc Tryd.prog Tryd.f4 false (w0.forCall (fun _ _ => 0) ⟨#[], #[.bool false, .bool false, .bool false, .int .i64 0], []⟩).memory #[.bool false, .bool false, .bool false, .int .i64 0] 8 = true) :=
  ⟨{ World.holding Tryd.prog os ⟨#[.cells #[.string ⟨#[105, 110, 118, 97, 108, 105, 100, 32, 115, 121, 110, 116, 97, 120]⟩] 92, .cells #[.string ⟨#[118, 97, 108, 117, 101, 32, 111, 117, 116, 32, 111, 102, 32, 114, 97, 110, 103, 101]⟩] 92], #[], []⟩ with heap := put (put (put (put (put (World.holding Tryd.prog os ⟨#[.cells #[.string ⟨#[105, 110, 118, 97, 108, 105, 100, 32, 115, 121, 110, 116, 97, 120]⟩] 92, .cells #[.string ⟨#[118, 97, 108, 117, 101, 32, 111, 117, 116, 32, 111, 102, 32, 114, 97, 110, 103, 101]⟩] 92], #[], []⟩).heap 1 #[.iface 90 (.pointer (some ⟨(World.holding Tryd.prog default ⟨#[], #[], []⟩).heap.size, 0, none⟩))]) 2 #[.iface 90 (.pointer (some ⟨(World.holding Tryd.prog default ⟨#[], #[], []⟩).heap.size + 1, 0, none⟩))]) 3 (([1, 10, 100, 1000, 10000, 100000, 1000000, 10000000, 100000000, 1000000000, 10000000000, 100000000000, 1000000000000, 10000000000000, 100000000000000, 1000000000000000, 10000000000000000, 100000000000000000, 1000000000000000000, 10000000000000000000] : List Int).map (Value.int .u64)).toArray) 4 (([0, 1, 28, 2, 29, 14, 24, 3, 30, 22, 20, 15, 25, 17, 4, 8, 31, 27, 13, 23, 21, 19, 16, 7, 26, 12, 18, 6, 11, 5, 10, 9] : List Int).map (Value.int .u8)).toArray) 5 (([0, 1, 56, 2, 57, 49, 28, 3, 61, 58, 42, 50, 38, 29, 17, 4, 62, 47, 59, 36, 45, 43, 51, 22, 53, 39, 33, 30, 24, 18, 12, 5, 63, 55, 48, 27, 60, 41, 37, 16, 46, 35, 44, 21, 52, 32, 23, 11, 54, 26, 40, 15, 34, 20, 31, 10, 25, 14, 19, 9, 13, 8, 7, 6] : List Int).map (Value.int .u8)).toArray },
    rfl, by kernel_rfl, by kernel_rfl, by kernel_rfl, laidMet_of_run' 8 (by kernel_rfl) (by kernel_rfl), fun H enc => ⟨[], by kernel_rfl⟩, fun H enc => by kernel_rfl⟩


theorem u64_mod (n : Int) (m : Nat) (hm : 0 < m) (hm2 : m ≤ 4294967296) : ∃ N : Nat, N < m ∧ wrap64 ((IntKind.u64.wrap n).tmod m) = N := by
  rw [IntKind.wrap_u64]
  have h0 : 0 ≤ n % 18446744073709551616 := Int.emod_nonneg _ (by decide)
  rw [Int.tmod_eq_emod_of_nonneg h0]
  have h1 := Int.emod_nonneg (n % 18446744073709551616) (show (m : Int) ≠ 0 by omega)
  have h2 := Int.emod_lt_of_pos (n % 18446744073709551616) (show (0 : Int) < m by omega)
  refine ⟨(n % 18446744073709551616 % m).toNat, by omega, ?_⟩
  unfold wrap64
  omega
theorem order_walk (a b c : Bool) (k : Int) (w : World) (te : TypeId) (pe : Value) (hv : w.cell? ⟨2, 0, none⟩ = some (.iface te pe)) :
    Calls Tryd.prog 4 #[.bool a, .bool b, .bool c, .int .i64 k] w fun e w' => e = .returned (.bool true) ∧ Below w.heap.size w w' := by
  cases a <;> cases b <;> cases c
  · obtain ⟨N, hN, hm⟩ := u64_mod k 1 (by decide) (by decide)
    obtain rfl : N = 0 := by omega
    exact order_000_0 k w te pe hv hm
  · obtain ⟨N, hN, hm⟩ := u64_mod k 2 (by decide) (by decide)
    rcases (by omega : N = 0 ∨ N = 1) with rfl | rfl
    · exact order_001_0 k w te pe hv hm
    · exact order_001_1 k w te pe hv hm
  · obtain ⟨N, hN, hm⟩ := u64_mod k 2 (by decide) (by decide)
    rcases (by omega : N = 0 ∨ N = 1) with rfl | rfl
    · exact order_010_0 k w te pe hv hm
    · exact order_010_1 k w te pe hv hm
  · obtain ⟨N, hN, hm⟩ := u64_mod k 3 (by decide) (by decide)
    rcases (by omega : N = 0 ∨ N = 1 ∨ N = 2) with rfl | rfl | rfl
    · exact order_011_0 k w te pe hv hm
    · exact order_011_1 k w te pe hv hm
    · exact order_011_2 k w te pe hv hm
  · obtain ⟨N, hN, hm⟩ := u64_mod k 2 (by decide) (by decide)
    rcases (by omega : N = 0 ∨ N = 1) with rfl | rfl
    · exact order_100_0 k w te pe hv hm
    · exact order_100_1 k w te pe hv hm
  · obtain ⟨N, hN, hm⟩ := u64_mod k 3 (by decide) (by decide)
    rcases (by omega : N = 0 ∨ N = 1 ∨ N = 2) with rfl | rfl | rfl
    · exact order_101_0 k w te pe hv hm
    · exact order_101_1 k w te pe hv hm
    · exact order_101_2 k w te pe hv hm
  · obtain ⟨N, hN, hm⟩ := u64_mod k 3 (by decide) (by decide)
    rcases (by omega : N = 0 ∨ N = 1 ∨ N = 2) with rfl | rfl | rfl
    · exact order_110_0 k w te pe hv hm
    · exact order_110_1 k w te pe hv hm
    · exact order_110_2 k w te pe hv hm
  · obtain ⟨N, hN, hm⟩ := u64_mod k 4 (by decide) (by decide)
    rcases (by omega : N = 0 ∨ N = 1 ∨ N = 2 ∨ N = 3) with rfl | rfl | rfl | rfl
    · exact order_111_0 k w te pe hv hm
    · exact order_111_1 k w te pe hv hm
    · exact order_111_2 k w te pe hv hm
    · exact order_111_3 k w te pe hv hm
set_option maxHeartbeats 800000 in
set_option maxRecDepth 100000 in
theorem order_lifted (os : Os) (started : os.Started) (H : Type) (enc : TypeId × Value → H) (F : Stop.Interp) :
    ReturnsInHanded {} Tryd.checked os 4 .any ((OpenSpec.ofChange Rows.deskOrderSpec).preRow enc Tryd.prog Tryd.f4 Rows.deskOrderRow.domain false Rows.deskOrderRow.laid) (((OpenSpec.ofChange Rows.deskOrderSpec).at F).post enc Tryd.prog Tryd.f4 false true false false) := by
  obtain ⟨w0, a1, a2, a3, a4, a5, a6, a7⟩ := start_exO os
  obtain ⟨places, hx⟩ := a6 H enc
  refine returnsInHanded_of_row (C := Tryd.checked) (s := OpenSpec.ofChange Rows.deskOrderSpec) Tryd.own started (by kernel_rfl) Tryd.func4
    (witness_row_atRef (enc := enc) (C := Tryd.checked) false w0 #[.bool false, .bool false, .bool false, .int .i64 0] a1 a2 a3 a4
      (OpenSpec.preRow_of_cond 8 hx rfl (fun k hk => by cases hk) (a7 H enc) a5)) ?_
  intro W base args ds gs before hval0 hW _ _ _ hL _ _
  have hval : ∀ (j : Nat) t v, Tryd.f4.params[j]? = some t → args[j]? = some v → Value.okWide Tryd.prog W .any base t v := hval0
  have hW' := hW
  obtain ⟨p, q, hA0, hV, rfl, _, _⟩ := hW
  have hA : DataW.TrodAll enc Tryd.prog W 0 (fun _ => true) true Tryd.f4.params.toList args.toList ds p := hA0
  rw [Tryd.params4] at hA hval
  obtain ⟨v0, vs0, d0, ds0, p0, q0, hargs, rfl, rfl, h0, r0⟩ := trodAll_cons hA
  obtain ⟨v1, vs1, d1, ds1, p1, q1, rfl, rfl, rfl, h1, r1⟩ := trodAll_cons r0
  obtain ⟨v2, vs2, d2, ds2, p2, q2, rfl, rfl, rfl, h2, r2⟩ := trodAll_cons r1
  obtain ⟨v3, vs3, d3, ds3, p3, q3, rfl, rfl, rfl, h3, r3⟩ := trodAll_cons r2
  obtain ⟨rfl, rfl, rfl⟩ := trodAll_nil r3
  obtain rfl : args = #[v0, v1, v2, v3] := by cases args; simp_all
  obtain ⟨rfl, rfl⟩ := trodVars_none hV
  obtain ⟨n0, rfl, rfl, rfl⟩ := open_bool Tryd.underlying4 (hval 0 4 v0 rfl rfl) h0
  obtain ⟨n1, rfl, rfl, rfl⟩ := open_bool Tryd.underlying4 (hval 1 4 v1 rfl rfl) h1
  obtain ⟨n2, rfl, rfl, rfl⟩ := open_bool Tryd.underlying4 (hval 2 4 v2 rfl rfl) h2
  obtain ⟨n3, rfl, rfl, rfl, wn3⟩ := open_int Tryd.underlying3 (hval 3 3 v3 rfl rfl) h3
  clear hA0 hval0
  simp only [List.append_nil] at hW'
  obtain ⟨te, pe, hv⟩ := errRange_cell hL
  refine (order_walk n0 n1 n2 n3 W te pe hv).mono fun e W' ⟨he, hn⟩ => ?_
  subst he
  exact ⟨_, rfl, _, _, _, [], _, [], hW', trodAll_mk1 (shut_bool Tryd.underlying4 true), (trodAll_cons_mk (shut_bool Tryd.underlying4 n0) (trodAll_cons_mk (shut_bool Tryd.underlying4 n1) (trodAll_cons_mk (shut_bool Tryd.underlying4 n2) (trodAll_cons_mk (shut_int Tryd.underlying3 wn3) trodAll_mk0)))), rfl, hn.frame _, fun h => by cases h⟩

theorem order_said : Rows.DeskOrderSaid :=
  OpenClaim.holds_of_cond 4 Tryd.f4 rfl rfl rfl rfl rfl rfl rfl ⟨rfl, rfl, rfl, rfl, rfl⟩ rfl rfl rfl rfl rfl (by kernel_rfl) Tryd.func4 (by kernel_rfl)
    (of_decide_eq_true (by kernel_rfl)) (by unfold Func.isWrapper; first | (rw [if_pos (by decide +kernel)]; kernel_rfl) | (rw [if_neg (by decide +kernel)]; exact ⟨rfl, rfl⟩))
    (fun os started H enc _ F => by rw [OpenClaim.pre_eq_preRow]; exact order_lifted os started H enc F)

/-- No parameter wants a stand-in; the program's own looks are off. -/
theorem order_plain (f : FuncId) (fn : Func) (hf : Tryd.pinned.checked.prog.funcNamed Rows.deskOrderRow.func = some f) (hfn : Tryd.pinned.checked.prog.funcs[f]? = some fn) :
    true = Tryd.pinned.checked.prog.looks [] ∧ ∀ (j : Nat) t, fn.params[j]? = some t → Tryd.pinned.checked.prog.wantsStandIn t = false := by
  obtain rfl : f = 4 := Option.some.inj ((show Tryd.prog.funcNamed Rows.deskOrderRow.func = some 4 by kernel_rfl).symm.trans hf) |>.symm
  obtain rfl : fn = Tryd.f4 := (Option.some.inj (Tryd.func4.symm.trans hfn)).symm
  refine ⟨by kernel_rfl, fun j t ht => ?_⟩
  rw [Tryd.params4] at ht
  have ht' : t = 4 ∨ t = 3 := by
    have := Array.mem_of_getElem? ht
    simp at this
    omega
  rcases ht' with rfl | rfl
  · exact (show Tryd.prog.wantsStandIn 4 = false by kernel_rfl)
  · exact (show Tryd.prog.wantsStandIn 3 = false by kernel_rfl)

/-- Whatever the bools and the number: the law answers true. -/
theorem deskOrder_card : Rows.DeskOrderCardSaid :=
  Claim7.holds_tied_plain_at .later [] _ _ _ _ order_said (fun _ h => by cases h) (by kernel_rfl) (fun _ h => by cases h) deskOrder_row_tie rfl ⟨rfl, rfl⟩ (by kernel_rfl) rfl order_plain (by kernel_rfl)

#print axioms deskOrder_card
end Go.Proofs.YtebohmcbeacdkaaDoor
