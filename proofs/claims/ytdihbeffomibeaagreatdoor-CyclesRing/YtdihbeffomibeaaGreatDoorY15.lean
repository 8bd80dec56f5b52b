/-
  slices.AppendSeq and slices.Collect of slices.Values.
  DERIVED: THE SHELF's CONTRACTS AT THIS DUMP, IN PLAIN WORDS (tools/lay-plain.mjs out of 'YtdihbeffomibeaaGreatDoorShC.lean', which tools/lay-shelf.mjs wrote): THE SAME DECLARATIONS UNDER THE SAME NAMES: 'import', 'namespace', 'open', 'def', 'theorem' AND NOTHING ELSE: no command of the shelf's: FOR A HAND-IN. Each laying: the table of numbers ('.._ren') and one theorem, a field a fact of the dump's own or the kernel's comparison; each contract: ONE APPLICATION.
  slices.Sorted of slices.Values.
  The search for components: the edges of a node; enter.
  The search for components: close.
-/
import Derived.Test.YtdihbeffomibeaaGreatDoorY14
import Derived.Shelf.SlGeneric
import Derived.Shelf.SlSortCmp.NoneTotal
import Derived.Shelf.SortM.Plain
import Derived.Ground.SlsfProg
import Derived.Ground.SlgmProg
import Derived.Test.YtdihbeffomibeaaGreatDoorProg
import Derived.Lib.SlKeysI
import Derived.Deep.RegionLaw
namespace Go.Proofs.YtdihbeffomibeaaGreatDoor
set_option linter.unusedVariables false
set_option linter.unusedSimpArgs false
open Go.RowKit Go.Shelf
attribute [local go_sem] Oper.semAt_some

/-- Behind k rounds: the box holds a row of one's own with the first k numbers. -/
def ApJ (w : World) (l : List Nat) (k : Nat) (W : World) : Prop := ∃ v, W.heap[w.heap.size]? = some (.cells #[v] 40) ∧ W.ownsRow (w.heap.size + 1) 3 1 v k (intsV (l.take k)) ∧ KeepB w.heap.size w W ∧ w.heap.size + 1 ≤ W.heap.size
theorem own_put {B t k n : Nat} {W : World} {v : Value} {xs : List Value} (h : W.ownsRow B t k v n xs) (l : Nat) (o o' : Obj) (ho : W.heap[l]? = some o) (hx : o.isCells = false) : (W.putObj l o').ownsRow B t k v n xs := by
  refine ⟨h.1, ?_⟩
  rcases h.2 with h1 | ⟨g, cap, cur, hv, hB, hh, r⟩
  · exact .inl h1
  · refine .inr ⟨g, cap, cur, hv, hB, ?_, r⟩
    rw [World.putObj_heap_other (fun e => by rw [e, ho] at hh; cases hh; cases hx)]
    exact hh
theorem ApJ.stays {w : World} {l : List Nat} (k : Nat) : Stays (w.heap.size + 1) (ApJ w l k) := fun W i o o' hj hi ho hx => by
  obtain ⟨v, h1, h2, h3, h4⟩ := hj
  refine ⟨v, ?_, own_put h2 i o o' ho hx, h3.trans (KeepB.put W i o' (by omega)), by rw [World.putObj_size]; exact h4⟩
  rw [World.putObj_heap_other (by omega)]
  exact h1
theorem keepB_set (n : Nat) (W : World) (v : Value) : KeepB n W (W.setCell ⟨n, 0, none⟩ v) := ⟨rfl, rfl, rfl, by simp, fun b hb => Below.heap_setCell W ⟨n, 0, none⟩ v b (fun e => by have e' : b = n := e; omega)⟩
theorem cell_one {w : World} {b t : Nat} {v : Value} (h : w.heap[b]? = some (.cells #[v] t)) : w.cell? ⟨b, 0, none⟩ = some v ∧ w.frozen? ⟨b, 0, none⟩ = false := ⟨Lib.cell_of_heap h 0, Lib.frozen_of_heap h 0⟩

set_option maxRecDepth 100000 in
set_option maxHeartbeats 4000000 in
theorem appSeq_is (Bs : Nat) (a : Option Addr) (l : List Nat) (cap : Nat) (w : World) (hlen : l.length ≤ 1000) (hcap : l.length ≤ cap) (hBs : w.cell? ⟨Bs, 0, none⟩ = some (.slice a l.length cap)) (hB1 : Bs < w.heap.size) (hc : IntsAt w w.heap.size a l) :
    Calls Tryz.prog 116 #[.slice none 0 0, .func (.func 114) #[] #[.pointer (some ⟨Bs, 0, none⟩)]] w fun e w' => (∃ v, e = .returned v ∧ Ints w.heap.size w' v l) ∧ Below w.heap.size w w' := by
  obtain ⟨i3, hi3, hz3⟩ := Option.map_eq_some_iff.1 Tryz.info3i
  simp only [Prod.mk.injEq] at hz3
  obtain ⟨z30, z31, z32⟩ := hz3
  refine (callsIn_wide (n := 5)).1 ?_
  refine callsIn_of_wp_marks Tryz.func116 rfl trivial ?_ rfl
  simp only [Tryz.ntmps116, List.size_toArray, List.length_cons, List.length_nil, Nat.reduceAdd, Nat.reduceSub, Array.replicate_succ, Array.replicate_zero, List.push_toArray, List.append_toArray, List.nil_append, List.cons_append]
  gi_wp2
  obtain ⟨w3, hw3⟩ : ∃ w3, w.alloc (.cells #[.slice none 0 0] 40) = w3 := ⟨_, rfl⟩
  have hs3 : w3.heap.size = w.heap.size + 1 := by rw [← hw3, World.size_alloc]
  have b0 : w3.heap[w.heap.size]? = some (.cells #[.slice none 0 0] 40) := by rw [← hw3]; exact heap_alloc_new w _
  have BW : Below w.heap.size w w3 := by rw [← hw3]; exact below_box w _
  rw [hw3]
  clear hw3
  have hBs3 : w3.cell? ⟨Bs, 0, none⟩ = some (.slice a l.length cap) := (BW.cell (p := ⟨Bs, 0, none⟩) hB1).trans hBs
  have hc3 : IntsAt w3 w.heap.size a l := fun j hj => by
    obtain ⟨b, off, h1, h2, h3⟩ := hc j hj
    exact ⟨b, off, h1, h2, (BW.cell (p := ⟨b, off + j, none⟩) h2).trans h3⟩
  refine wpIn_rangeFunc_det (F := Fence.wide) (n := 5) rfl (by omega) (gf := 114) (lb := #[.pointer (some ⟨Bs, 0, none⟩)]) rfl trivial (enters_of Tryz.func114 (by kernel_rfl) rfl)
    (values_seq Fence.wide _ trivial rfl (by omega) Bs w.heap.size a l cap w3 hlen hcap hBs3 hB1 (by omega) hc3)
    (Below.refl _ _) (fun _ => rfl) (fun h k => h.trans k) (fun W l o o' hl _ _ => KeepB.put W l o' (by omega))
    (ApJ w l) (fun k => by rw [hs3]; exact ApJ.stays k)
    (fun o1 o2 => by
      have hb2 : Below w3.heap.size w3 ((w3.alloc o1).alloc o2) := ((Below.refl _ w3).alloc (Nat.le_refl _) _).alloc (by simp) _
      exact ⟨_, (hb2.block w.heap.size (by omega)).trans b0, World.ownsRow_nil _ _ _ _, KeepB.of_below (BW.trans (hb2.mono (by omega))), by have := hb2.size; omega⟩)
    (fun k a1 W => ApJ w l k W ∧ a1 = { tmps := #[.slice none 0 0, .func (.func 114) #[] #[.pointer (some ⟨Bs, 0, none⟩)], .pointer (some ⟨w.heap.size, 0, none⟩), undef, .slice none 0 0, .int .i64 ((l.getD k 0 : Nat) : Int), .func (.func 114) #[] #[.pointer (some ⟨Bs, 0, none⟩)], .int .i64 ((l.getD k 0 : Nat) : Int), undef, undef, undef, undef, undef], defers := [] })
    (fun k a1 W i o o' hj hi ho hx => ⟨ApJ.stays k W i o o' hj.1 (by omega) ho hx, hj.2⟩)
    ?assign ?body ?done
  case assign =>
    rintro id k W hk hj
    unfold valX
    generalize l.getD k 0 = x
    gi_wp2
    first | exact ⟨KeepsFrom.refl _ _, KeepB.refl _ _, hj, rfl⟩ | exact ⟨KeepsFrom.refl _ _, KeepB.refl _ _, hj, trivial⟩
  case done =>
    rintro D W hD ⟨v, h1, h2, h3, h4⟩ hK
    obtain ⟨c0, f0⟩ := cell_one h1
    have hsz : D ≠ w.heap.size := by omega
    have H2 := hid h2
    have H3 := hid h3
    obtain ⟨va, vc, rfl, hvc⟩ := own_form h2
    clear h2 h3
    gi_wp2
    refine ⟨by simp, .inl ⟨_, _, rfl, run_takeDeferred hK, ?_⟩⟩
    refine ⟨_, results_tmp rfl _ _ _, ⟨_, rfl, ?_⟩, ?_⟩
    · have h5 := own_put H2.out D (.deferred (some [])) (.deferred none) hK rfl
      rw [List.take_length] at h5
      refine ⟨h5.1, ?_⟩
      rcases h5.2 with h6 | ⟨g, cap', cur, hv, hB, r⟩
      · exact .inl h6
      · exact .inr ⟨g, cap', cur, hv, by omega, r⟩
    · exact (H3.out.trans (KeepB.put W D _ (by omega))).below
  case body =>
    rintro id k a1 W hk ⟨⟨v, h1, h2, h3, h4⟩, rfl⟩
    obtain ⟨c0, f0⟩ := cell_one h1
    have H1 := hid h1
    have H2 := hid h2
    have H3 := hid h3
    have hx : l.take (k + 1) = l.take k ++ [l.getD k 0] := by
      rw [List.take_succ_eq_append_getElem hk]
      simp [List.getD, hk]
    have HX := hid hx
    generalize l.getD k 0 = x at *
    have N3 : Hid (∀ j u, ([.int .i64 (x : Int)] : List Value)[j]? = some u → (W.alloc (.cells #[.int .i64 (x : Int)] 3)).cell? ((⟨W.heap.size, 0, none⟩ : Addr).add j) = some u) := World.news_of_block (cs := #[.int .i64 (x : Int)]) (t := 3) (fr := (0, 0)) (heap_alloc_new W _)
    have hlt : w.heap.size < W.heap.size := by omega
    clear h1 h2 h3 hx
    gi_wp2_with (gi_at_builtin; refine wpListIn_append_own _ rfl _ _ 40 rfl (w.heap.size + 1) 3 i3 (.int .i64 0) 1 8 Tryz.underlying40 hi3 z30 z31 z32 rfl (by decide) v k (intsV (l.take k)) rfl (H2.out.alloc _) ⟨W.heap.size, 0, none⟩ 1 1 [.int .i64 (x : Int)] rfl rfl N3.out (by simp [Value.oneCell']) (by unfold maxLen; omega) (by omega) (by simp; omega) ?_; intro v' w5 hown' hg5 hnil5; obtain ⟨va, vc, rfl, hvc⟩ := own_form hown'; have G5 := hid hg5; have O5 := hid hown'; have hb5 : w5.heap[w.heap.size]? = some (.cells #[v] 40) := ((gro_of_grown hg5).at ((below_box W _).block w.heap.size hlt |>.trans H1.out) (fun e => by have := (own_tag (H2.out.alloc (.cells #[.int .i64 (x : Int)] 3)) e).1; omega)); obtain ⟨c5, f5⟩ := cell_one hb5; have HB5 := hid hb5; clear hown' hg5 hnil5 hb5)
    have hg5 := gro_of_grown G5.out
    have hk5 : KeepB w.heap.size W w5 := (KeepB.of_below ((below_box W _).mono (by omega))).trans (KeepB.of_below (hg5.below w.heap.size (fun j hj => by have := (own_tag (H2.out.alloc (.cells #[.int .i64 (x : Int)] 3)) hj).1; omega) (by simp; omega)))
    refine ⟨?_, ?_, ?_⟩
    · refine KeepsOthers.from ?_ _
      exact ((KeepsOthers.alloc _ _).trans (KeepsOthers.of_grownBy G5.out (fun j o hj ho => by obtain ⟨_, c, hc⟩ := own_tag (H2.out.alloc (.cells #[.int .i64 (x : Int)] 3)) hj; rw [hc] at ho; cases ho; rfl))).trans (KeepsOthers.setCell _ _ _)
    · exact hk5.trans (keepB_set _ _ _)
    · refine ⟨_, Go.Joins.block_setCell HB5.out _, ?_, (H3.out.trans hk5).trans (keepB_set _ _ _), ?_⟩
      · have h6 := own_set O5.out w.heap.size 0 (.slice va (k + 1) vc) HB5.out (by decide)
        rw [HX.out]
        simpa [intsV] using h6
      · have h7 := hk5.size
        simp
        omega
set_option maxHeartbeats 2000000 in
theorem collect_is (Bs : Nat) (a : Option Addr) (l : List Nat) (cap : Nat) (w : World) (hlen : l.length ≤ 1000) (hcap : l.length ≤ cap) (hBs : w.cell? ⟨Bs, 0, none⟩ = some (.slice a l.length cap)) (hB1 : Bs < w.heap.size) (hc : IntsAt w w.heap.size a l) :
    Calls Tryz.prog 112 #[.func (.func 114) #[] #[.pointer (some ⟨Bs, 0, none⟩)]] w fun e w' => (∃ v, e = .returned v ∧ Ints w.heap.size w' v l) ∧ Below w.heap.size w w' := by
  have AP := hid (appSeq_is Bs a l cap w hlen hcap hBs hB1 hc)
  clear hBs hB1 hc
  go_enter Tryz.func112, Tryz.ntmps112
  go_wp2_with fail
  go_at_call 116
  refine AP.out.mono ?_
  rintro e w' ⟨⟨v, rfl, i4⟩, b4⟩
  have I4 := hid i4
  have B4 := hid b4
  obtain ⟨va, vc, rfl⟩ := i4.form
  clear i4 b4
  go_wp2_with fail
  go_ret
  exact ⟨⟨_, rfl, I4.out⟩, B4.out⟩
end Go.Proofs.YtdihbeffomibeaaGreatDoor
namespace Go.Proofs
open Go.Shelf
def Tryz.sfI_ren : Go.Shelf.Ren := ⟨fun | 6 => 72 | 15 => 85 | 14 => 84 | 28 => 102 | 29 => 103 | 20 => 94 | 21 => 95 | 22 => 96 | 23 => 97 | 24 => 98 | 25 => 99 | 26 => 100 | 27 => 101 | 46 => 107 | 47 => 108 | 48 => 109 | 49 => 110 | 50 => 111 | 57 => 115 | n => n, fun | 22 => 81 | 24 => 40 | 25 => 118 | 3 => 3 | 39 => 39 | 0 => 0 | 53 => 151 | 55 => 109 | 4 => 4 | 46 => 145 | 45 => 144 | 50 => 121 | 5 => 5 | 9 => 9 | 66 => 157 | 70 => 161 | 76 => 163 | 77 => 55 | n => n, fun | n => n⟩
theorem Tryz.sfI : Go.Proofs.SlLaysF.n6 Tryz.prog Tryz.sfI_ren := {
  mixed := by kernel_rfl
  f6 := ⟨Tryz.f72.name, by decide, Tryz.func72.trans (congrArg some (by kernel_rfl))⟩
  f14 := ⟨Tryz.f84.name, by decide, Tryz.func84.trans (congrArg some (by kernel_rfl))⟩
  f15 := Tryz.func85.trans (congrArg some (by kernel_rfl))
  f20 := ⟨Tryz.f94.name, by decide, Tryz.func94.trans (congrArg some (by kernel_rfl))⟩
  f21 := ⟨Tryz.f95.name, by decide, Tryz.func95.trans (congrArg some (by kernel_rfl))⟩
  f22 := ⟨Tryz.f96.name, by decide, Tryz.func96.trans (congrArg some (by kernel_rfl))⟩
  f23 := ⟨Tryz.f97.name, by decide, Tryz.func97.trans (congrArg some (by kernel_rfl))⟩
  f24 := ⟨Tryz.f98.name, by decide, Tryz.func98.trans (congrArg some (by kernel_rfl))⟩
  f25 := ⟨Tryz.f99.name, by decide, Tryz.func99.trans (congrArg some (by kernel_rfl))⟩
  f26 := ⟨Tryz.f100.name, by decide, Tryz.func100.trans (congrArg some (by kernel_rfl))⟩
  f27 := ⟨Tryz.f101.name, by decide, Tryz.func101.trans (congrArg some (by kernel_rfl))⟩
  f28 := Tryz.func102.trans (congrArg some (by kernel_rfl))
  f29 := Tryz.func103.trans (congrArg some (by kernel_rfl))
  f46 := ⟨Tryz.f107.name, by decide, Tryz.func107.trans (congrArg some (by kernel_rfl))⟩
  f47 := Tryz.func108.trans (congrArg some (by kernel_rfl))
  f48 := Tryz.func109.trans (congrArg some (by kernel_rfl))
  f49 := ⟨Tryz.f110.name, by decide, Tryz.func110.trans (congrArg some (by kernel_rfl))⟩
  f50 := ⟨Tryz.f111.name, by decide, Tryz.func111.trans (congrArg some (by kernel_rfl))⟩
  f57 := ⟨Tryz.f115.name, by decide, Tryz.func115.trans (congrArg some (by kernel_rfl))⟩
  t0 := Tryz.underlying0
  a0 := Tryz.isAgg0
  z0 := Tryz.sizeOf0
  v0 := Tryz.zeroValue0
  t3 := Tryz.underlying3
  a3 := Tryz.isAgg3
  z3 := Tryz.sizeOf3
  v3 := Tryz.zeroValue3
  t4 := Tryz.underlying4
  a4 := Tryz.isAgg4
  z4 := Tryz.sizeOf4
  v4 := Tryz.zeroValue4
  t5 := Tryz.underlying5
  a5 := Tryz.isAgg5
  z5 := Tryz.sizeOf5
  v5 := Tryz.zeroValue5
  t9 := Tryz.underlying9
  a9 := Tryz.isAgg9
  z9 := Tryz.sizeOf9
  v9 := Tryz.zeroValue9
  t22 := Tryz.underlying81
  a22 := Tryz.isAgg81
  z22 := Tryz.sizeOf81
  v22 := Tryz.zeroValue81
  a24 := Tryz.isAgg40
  z24 := Tryz.sizeOf40
  t25 := Tryz.underlying118
  a25 := Tryz.isAgg118
  z25 := Tryz.sizeOf118
  v25 := Tryz.zeroValue118
  t39 := Tryz.underlying39
  a39 := Tryz.isAgg39
  z39 := Tryz.sizeOf39
  v39 := Tryz.zeroValue39
  t45 := Tryz.underlying144
  a45 := Tryz.isAgg144
  z45 := Tryz.sizeOf144
  v45 := Tryz.zeroValue144
  t46 := Tryz.underlying145
  a46 := Tryz.isAgg145
  z46 := Tryz.sizeOf145
  v46 := Tryz.zeroValue145
  t50 := Tryz.underlying121
  a50 := Tryz.isAgg121
  z50 := Tryz.sizeOf121
  v50 := Tryz.zeroValue121
  t53 := Tryz.underlying151
  a53 := Tryz.isAgg151
  z53 := Tryz.sizeOf151
  v53 := Tryz.zeroValue151
  t55 := Tryz.underlying109
  a55 := Tryz.isAgg109
  z55 := Tryz.sizeOf109
  v55 := Tryz.zeroValue109
  t66 := Tryz.underlying157
  a66 := Tryz.isAgg157
  z66 := Tryz.sizeOf157
  v66 := Tryz.zeroValue157
  t70 := Tryz.underlying161
  a70 := Tryz.isAgg161
  z70 := Tryz.sizeOf161
  v70 := Tryz.zeroValue161
  t76 := Tryz.underlying163
  a76 := Tryz.isAgg163
  z76 := Tryz.sizeOf163
  v76 := Tryz.zeroValue163
  t77 := Tryz.underlying55
  a77 := Tryz.isAgg55
  z77 := Tryz.sizeOf55
  v77 := Tryz.zeroValue55 }
def Tryz.soI_ren : Go.Shelf.Ren := ⟨fun | 5 => 113 | 8 => 85 | 7 => 117 | 19 => 102 | 20 => 103 | 10 => 118 | 11 => 119 | 12 => 120 | 13 => 121 | 14 => 122 | 15 => 123 | 16 => 124 | 17 => 125 | 18 => 126 | 30 => 127 | 31 => 108 | 32 => 109 | 33 => 128 | 34 => 129 | 35 => 104 | 40 => 130 | n => n, fun | 23 => 40 | 25 => 3 | 3 => 3 | 32 => 39 | 22 => 40 | 0 => 0 | 44 => 151 | 46 => 109 | 4 => 4 | 36 => 145 | 35 => 144 | 41 => 121 | 5 => 5 | 9 => 9 | 53 => 157 | 57 => 161 | 63 => 163 | 64 => 55 | n => n, fun | n => n⟩
theorem Tryz.soI : Go.Proofs.SlLaysM.n5 Tryz.prog Tryz.soI_ren := {
  mixed := by kernel_rfl
  f5 := ⟨Tryz.f113.name, by decide, Tryz.func113.trans (congrArg some (by kernel_rfl))⟩
  f7 := ⟨Tryz.f117.name, by decide, Tryz.func117.trans (congrArg some (by kernel_rfl))⟩
  f8 := Tryz.func85.trans (congrArg some (by kernel_rfl))
  f10 := ⟨Tryz.f118.name, by decide, Tryz.func118.trans (congrArg some (by kernel_rfl))⟩
  f11 := ⟨Tryz.f119.name, by decide, Tryz.func119.trans (congrArg some (by kernel_rfl))⟩
  f12 := ⟨Tryz.f120.name, by decide, Tryz.func120.trans (congrArg some (by kernel_rfl))⟩
  f13 := ⟨Tryz.f121.name, by decide, Tryz.func121.trans (congrArg some (by kernel_rfl))⟩
  f14 := ⟨Tryz.f122.name, by decide, Tryz.func122.trans (congrArg some (by kernel_rfl))⟩
  f15 := ⟨Tryz.f123.name, by decide, Tryz.func123.trans (congrArg some (by kernel_rfl))⟩
  f16 := ⟨Tryz.f124.name, by decide, Tryz.func124.trans (congrArg some (by kernel_rfl))⟩
  f17 := ⟨Tryz.f125.name, by decide, Tryz.func125.trans (congrArg some (by kernel_rfl))⟩
  f18 := ⟨Tryz.f126.name, by decide, Tryz.func126.trans (congrArg some (by kernel_rfl))⟩
  f19 := Tryz.func102.trans (congrArg some (by kernel_rfl))
  f20 := Tryz.func103.trans (congrArg some (by kernel_rfl))
  f30 := ⟨Tryz.f127.name, by decide, Tryz.func127.trans (congrArg some (by kernel_rfl))⟩
  f31 := Tryz.func108.trans (congrArg some (by kernel_rfl))
  f32 := Tryz.func109.trans (congrArg some (by kernel_rfl))
  f33 := ⟨Tryz.f128.name, by decide, Tryz.func128.trans (congrArg some (by kernel_rfl))⟩
  f34 := ⟨Tryz.f129.name, by decide, Tryz.func129.trans (congrArg some (by kernel_rfl))⟩
  f35 := ⟨Tryz.f104.name, by decide, Tryz.func104.trans (congrArg some (by kernel_rfl))⟩
  f40 := ⟨Tryz.f130.name, by decide, Tryz.func130.trans (congrArg some (by kernel_rfl))⟩
  t0 := Tryz.underlying0
  a0 := Tryz.isAgg0
  z0 := Tryz.sizeOf0
  v0 := Tryz.zeroValue0
  t3 := Tryz.underlying3
  a3 := Tryz.isAgg3
  z3 := Tryz.sizeOf3
  v3 := Tryz.zeroValue3
  t4 := Tryz.underlying4
  a4 := Tryz.isAgg4
  z4 := Tryz.sizeOf4
  v4 := Tryz.zeroValue4
  t5 := Tryz.underlying5
  a5 := Tryz.isAgg5
  z5 := Tryz.sizeOf5
  v5 := Tryz.zeroValue5
  t9 := Tryz.underlying9
  a9 := Tryz.isAgg9
  z9 := Tryz.sizeOf9
  v9 := Tryz.zeroValue9
  t22 := Tryz.underlying40
  a22 := Tryz.isAgg40
  z22 := Tryz.sizeOf40
  v22 := Tryz.zeroValue40
  t23 := Tryz.underlying40
  a23 := Tryz.isAgg40
  z23 := Tryz.sizeOf40
  v23 := Tryz.zeroValue40
  t25 := Tryz.underlying3
  a25 := Tryz.isAgg3
  z25 := Tryz.sizeOf3
  v25 := Tryz.zeroValue3
  t32 := Tryz.underlying39
  a32 := Tryz.isAgg39
  z32 := Tryz.sizeOf39
  v32 := Tryz.zeroValue39
  t35 := Tryz.underlying144
  a35 := Tryz.isAgg144
  z35 := Tryz.sizeOf144
  v35 := Tryz.zeroValue144
  t36 := Tryz.underlying145
  a36 := Tryz.isAgg145
  z36 := Tryz.sizeOf145
  v36 := Tryz.zeroValue145
  t41 := Tryz.underlying121
  a41 := Tryz.isAgg121
  z41 := Tryz.sizeOf121
  v41 := Tryz.zeroValue121
  t44 := Tryz.underlying151
  a44 := Tryz.isAgg151
  z44 := Tryz.sizeOf151
  v44 := Tryz.zeroValue151
  t46 := Tryz.underlying109
  a46 := Tryz.isAgg109
  z46 := Tryz.sizeOf109
  v46 := Tryz.zeroValue109
  t53 := Tryz.underlying157
  a53 := Tryz.isAgg157
  z53 := Tryz.sizeOf157
  v53 := Tryz.zeroValue157
  t57 := Tryz.underlying161
  a57 := Tryz.isAgg161
  z57 := Tryz.sizeOf161
  v57 := Tryz.zeroValue161
  t63 := Tryz.underlying163
  a63 := Tryz.isAgg163
  z63 := Tryz.sizeOf163
  v63 := Tryz.zeroValue163
  t64 := Tryz.underlying55
  a64 := Tryz.isAgg55
  z64 := Tryz.sizeOf55
  v64 := Tryz.zeroValue55 }
end Go.Proofs
namespace Go.Proofs.YtdihbeffomibeaaGreatDoor
set_option linter.unusedVariables false
set_option linter.unusedSimpArgs false
open Go.RowKit Go.Shelf Go.Sort

theorem sort_call (blk cap : Nat) (zs : List Int) (w : World) (hH : Holds (Value.int .i64) w blk 0 zs.toArray) (hblk : blk < w.heap.size) (hsz : zs.length < 4611686018427387904) :
    Calls Tryz.prog 113 #[.slice (some ⟨blk, 0, none⟩) zs.length cap] w fun e w' =>
      e = .returned (.tuple #[]) ∧ ∃ n os, w' = grow (putRow (Value.int .i64) (Sort.ahead w n) blk 0 (zs.mergeSort fun x y => decide (x ≤ y)).toArray) os := AnyM.slices_Sort_int Tryz.soI blk 0 cap zs w hH hblk hsz
/-- Numbers sorted. -/
def srt (l : List Nat) : List Nat := l.mergeSort fun x y => decide (x ≤ y)
theorem srt_map (l : List Nat) : (natI l).mergeSort (fun x y => decide (x ≤ y)) = natI (srt l) := by
  unfold natI srt
  rw [List.map_mergeSort]
  intro a _ b _
  simp
theorem srt_mem (l : List Nat) (v : Nat) : v ∈ srt l ↔ v ∈ l := by unfold srt; exact (List.mergeSort_perm l _).mem_iff
theorem srt_len (l : List Nat) : (srt l).length = l.length := by unfold srt; exact List.length_mergeSort l
theorem srt_pair {l : List Nat} (h : l.Nodup) : (srt l).Pairwise (· < ·) := by
  have h1 : (srt l).Pairwise (fun x y => decide (x ≤ y) = true) := List.pairwise_mergeSort (fun a b c h1 h2 => by simp at *; omega) (fun a b => by simp; omega) l
  have h2 : (srt l).Nodup := (List.mergeSort_perm l _).nodup_iff.2 h
  refine (h1.and h2).imp (fun {a b} hab => ?_)
  have := of_decide_eq_true hab.1
  have := hab.2
  omega
set_option maxHeartbeats 4000000 in
theorem sorted_is (Bs : Nat) (a : Option Addr) (l : List Nat) (cap : Nat) (w : World) (h0 : 0 < l.length) (hlen : l.length ≤ 1000) (hcap : l.length ≤ cap) (hBs : w.cell? ⟨Bs, 0, none⟩ = some (.slice a l.length cap)) (hB1 : Bs < w.heap.size) (hc : IntsAt w w.heap.size a l) :
    Calls Tryz.prog 105 #[.func (.func 114) #[] #[.pointer (some ⟨Bs, 0, none⟩)]] w fun e w' => (∃ v, e = .returned v ∧ Ints w.heap.size w' v (srt l)) ∧ Below w.heap.size w w' := by
  have CO := hid (collect_is Bs a l cap w hlen hcap hBs hB1 hc)
  clear hBs hB1 hc
  go_enter Tryz.func105, Tryz.ntmps105
  go_wp2_with fail
  go_at_call 112
  refine CO.out.mono ?_
  rintro e w1 ⟨⟨v, rfl, i4⟩, b4⟩
  have B4 := hid b4
  rcases i4.2 with ⟨_, h1⟩ | ⟨g, vc, cur, rfl, hB, hh, r1, r2, r3, r4⟩
  · omega
  have e1 : (natI l).length = l.length := by simp [natI]
  have hH : Holds encZ w1 g 0 (natI l).toArray := holds_of_block_i hh (by
    rw [e1]
    rw [Nat.mul_one] at r4
    rw [r4]
    simp [intsV, natI, encZ])
  have SC := sort_call g vc (natI l) w1 hH (blt hh) (by rw [e1]; omega)
  rw [e1, srt_map] at SC
  have RES : Hid (∀ n os, Ints w.heap.size (grow (putRow encZ (Sort.ahead w1 n) g 0 (natI (srt l)).toArray) os) (.slice (some ⟨g, 0, none⟩) l.length vc) (srt l) ∧ Below w.heap.size w (grow (putRow encZ (Sort.ahead w1 n) g 0 (natI (srt l)).toArray) os)) := fun n os => by
    refine ⟨?_, B4.out.grown (grownBy_sorted_i _) B4.out.size (fun j hj => by cases hj; exact hB)⟩
    have q := ownsRow_sorted_i (w := w1) (n := n) (os := os) (ss := natI l) (ts := natI (srt l)) (base := w.heap.size) (by simp [natI, srt_len]) hB hh (by rw [e1]; exact r1) r2 r3
    rw [e1] at q
    show World.ownsRow _ _ _ _ _ (srt l).length _
    rw [srt_len]
    have e2 : (natI (srt l)).map encZ = intsV (srt l) := by simp [natI, intsV, encZ]
    rw [← e2]
    exact q
  have SH := hid SC
  clear SC hH i4 b4 hh r1 r3 r4 e1
  go_wp2_with fail
  go_at_call 113
  refine SH.out.mono ?_
  rintro e w2 ⟨rfl, n, os, rfl⟩
  have R := hid (RES.out n os)
  go_wp2_with fail
  go_ret
  exact ⟨⟨_, rfl, R.out.1⟩, R.out.2⟩
end Go.Proofs.YtdihbeffomibeaaGreatDoor
namespace Go.Proofs.YtdihbeffomibeaaGreatDoor
set_option linter.unusedVariables false
set_option linter.unusedSimpArgs false
open Go.RowKit

/-- What the search begins with: the graph, and the boxes of its arguments. -/
structure Env (W : World) (b n r : Nat) (bk ck : Nat → Nat) (L : Nat → Nat → Nat) (labels : Int) (gb lb : Nat) : Prop where
  graph : Graph W b n r bk ck L
  tab : Tab W
  cg : W.cell? ⟨gb, 0, none⟩ = some (.pointer (some ⟨b, 0, none⟩))
  cl : W.cell? ⟨lb, 0, none⟩ = some (.int .i64 labels)
def outF (gb lb : Nat) : Value := .func (.func 69) #[] #[.pointer (some ⟨gb, 0, none⟩), .pointer (some ⟨lb, 0, none⟩)]
theorem Env.later {W w : World} {b n r : Nat} {bk ck : Nat → Nat} {L : Nat → Nat → Nat} {labels : Int} {gb lb : Nat} (h : Env W b n r bk ck L labels gb lb) (hb : Below W.heap.size W w) : Env w b n r bk ck L labels gb lb :=
  ⟨h.graph.later hb, h.tab.later hb, (hb.cell (p := ⟨gb, 0, none⟩) (World.block_lt_of_cell? _ _ h.cg)).trans h.cg, (hb.cell (p := ⟨lb, 0, none⟩) (World.block_lt_of_cell? _ _ h.cl)).trans h.cl⟩
set_option maxHeartbeats 2000000 in
set_option maxRecDepth 100000 in
theorem outc_is {w : World} {b n r : Nat} {bk ck : Nat → Nat} {L : Nat → Nat → Nat} {labels : Int} {gb lb : Nat} (h : Env w b n r bk ck L labels gb lb) (v : Nat) (hv : v < n) :
    Calls Tryz.prog 69 #[.int .i64 v, .pointer (some ⟨gb, 0, none⟩), .pointer (some ⟨lb, 0, none⟩)] w fun e w' => (∃ rv, e = .returned rv ∧ Ints w.heap.size w' rv (lst (edge L labels v) n)) ∧ Below w.heap.size w w' := by
  have cg := h.cg
  have cl := h.cl
  have OK := hid (out_ok b n r v bk ck L labels w h.graph hv h.tab)
  clear h
  go_enter Tryz.func69, Tryz.ntmps69
  go_wp2_with fail
  go_at_call 42
  refine OK.out.mono ?_
  rintro e w' ⟨⟨rv, rfl, i4⟩, b4⟩
  have I4 := hid i4
  have B4 := hid b4
  obtain ⟨ra, rc, rfl⟩ := i4.form
  clear i4 b4
  go_wp2_with fail
  go_ret
  exact ⟨⟨_, rfl, I4.out⟩, B4.out⟩
theorem Ints.partOff {B : Nat} {P : Nat → Prop} {w : World} {v : Value} {l : List Nat} (h : Ints B w v l) (hP : ∀ g, B ≤ g → P g) : Part P w v (natI l) := by
  rcases h.2 with ⟨rfl, hn⟩ | ⟨g, cap, cur, hv, hb, hg, h1, h2, h3, h4⟩
  · rw [List.length_eq_zero_iff.1 hn]
    exact .inl ⟨rfl, rfl⟩
  · have hlen : (natI l).length = l.length := by simp [natI]
    refine .inr ⟨g, 0, cap, cur, by rw [hlen]; exact hv, hP g hb, hg, by rw [hlen]; exact h1, h2, by omega, fun j hj => ?_⟩
    rw [hlen] at hj
    have e : cur.toList[j]? = (cur.toList.take (l.length * 1))[j]? := by rw [List.getElem?_take, if_pos (by omega)]
    rw [Nat.zero_add, ← Array.getElem?_toList, e, h4]
    simp [natI, intsV, List.getElem?_map, List.getD, hj]
theorem Tryz.infoStop : (Tryz.prog.info? 132).map (fun i => (i.zero, i.size, i.bytes)) = some (some (.agg #[.int .i64 0, .slice none 0 0]), 2, 32) := by kernel_rfl

set_option maxHeartbeats 8000000 in
set_option maxRecDepth 100000 in
theorem enter_is {Wb w : World} {b n r : Nat} {bk ck : Nat → Nat} {L : Nat → Nat → Nat} {labels : Int} {gb lb : Nat} (hE : Env Wb b n r bk ck L labels gb lb) (hB : Below Wb.heap.size Wb w) {sb mk : Nat} {wv ov fv : Value} {come : Nat} {num low : Nat → Nat} {ws : List Stp} {opn : List Nat} {fs : List (List Nat × Value)}
    (h : Sr w Wb.heap.size sb mk (outF gb lb) wv ov fv n come num low ws opn fs) (v : Nat) (hv : v < n) (hc : come < 300) (hw : ws.length ≤ 300) (ho : opn.length ≤ 300) :
    Calls Tryz.prog 81 #[.pointer (some ⟨sb, 0, none⟩), .int .i64 v] w fun e w' => e = .returned (.tuple #[]) ∧ (∃ rv wv' ov', Sr w' Wb.heap.size sb mk (outF gb lb) wv' ov' fv n (come + 1) (updN num v (come + 1)) (updN low v (come + 1)) (ws ++ [((v, lst (edge L labels v) n), rv)]) (opn ++ [v]) fs) ∧ Below Wb.heap.size Wb w' := by
  obtain ⟨i3, hi3, hz3⟩ := Option.map_eq_some_iff.1 Tryz.info3i
  simp only [Prod.mk.injEq] at hz3
  obtain ⟨z30, z31, z32⟩ := hz3
  obtain ⟨iS, hiS, hzS⟩ := Option.map_eq_some_iff.1 Tryz.infoStop
  simp only [Prod.mk.injEq] at hzS
  obtain ⟨zS0, zS1, zS2⟩ := hzS
  have HI3 := hid hi3
  have HZ30 := hid z30
  have HZ31 := hid z31
  have HZ32 := hid z32
  have HIS := hid hiS
  have HZS0 := hid zS0
  have HZS1 := hid zS1
  have HZS2 := hid zS2
  clear hi3 z30 z31 z32 hiS zS0 zS1 zS2
  have HE := hid hE
  have HB := hid hB
  have hsz := hB.size
  have hci : (come : Int) < 300 := by omega
  have hc0 : (0 : Int) ≤ come := by omega
  have hvi : (v : Int) < n := by omega
  have hv0 : (0 : Int) ≤ v := by omega
  -- the count
  have S1 := hid (h.comes (come + 1))
  have B1 : Hid (Below Wb.heap.size Wb (w.setCell ⟨sb, 2, none⟩ (.int .i64 ((come + 1 : Nat) : Int)))) := hB.setCell h.high.1 _
  obtain ⟨c0, c1, c2, c3, c4, c5⟩ := h.cells
  have f2 := h.fz 2
  have hcast : ((come + 1 : Nat) : Int) = (come : Int) + 1 := by omega
  rw [hcast] at S1 B1
  have hhi := h.high
  clear h hB hE c0 c1 c3 c4 c5
  go_enter Tryz.func81, Tryz.ntmps81
  go_wp2_with fail
  clear c2 f2
  generalize w.setCell ⟨sb, 2, none⟩ (.int .i64 ((come : Int) + 1)) = w1 at *
  -- the mark
  obtain ⟨c0, c1, c2, c3, c4, c5⟩ := S1.out.cells
  obtain ⟨m0, m1, g0, g1⟩ := S1.out.marks.cell v hv
  rw [hcast] at c2
  have S2 : Hid (Sr ((w1.setCell ⟨mk, v * 2, none⟩ (.int .i64 ((come : Int) + 1))).setCell ⟨mk, v * 2 + 1, none⟩ (.int .i64 ((come : Int) + 1))).drew Wb.heap.size sb mk (outF gb lb) wv ov fv n (come + 1) (updN num v (come + 1)) (updN low v (come + 1)) ws opn fs) := by
    have q1 := S1.out.mark (v * 2) (.int .i64 ((come + 1 : Nat) : Int)) (S1.out.marks.num v (come + 1) hv)
    have q2 := q1.mark (v * 2 + 1) (.int .i64 ((come + 1 : Nat) : Int)) (q1.marks.low v (come + 1) hv)
    rw [hcast] at q2
    exact q2.later (Below.refl _ _).drew
  have B2 : Hid (Below Wb.heap.size Wb ((w1.setCell ⟨mk, v * 2, none⟩ (.int .i64 ((come : Int) + 1))).setCell ⟨mk, v * 2 + 1, none⟩ (.int .i64 ((come : Int) + 1))).drew) := ((B1.out.setCell hhi.2 _).setCell hhi.2 _).drew
  clear c0 c3 c4 c5 S1 B1 hcast
  go_region
  clear c1 c2 m0 m1 g0 g1
  generalize ((w1.setCell ⟨mk, v * 2, none⟩ (.int .i64 ((come : Int) + 1))).setCell ⟨mk, v * 2 + 1, none⟩ (.int .i64 ((come : Int) + 1))).drew = w2 at *
  -- the open nodes
  obtain ⟨c0, c1, c2, c3, c4, c5⟩ := S2.out.cells
  have S3 : Hid (Sr (w2.alloc (.cells #[.int .i64 (v : Int)] 3)) Wb.heap.size sb mk (outF gb lb) wv ov fv n (come + 1) (updN num v (come + 1)) (updN low v (come + 1)) ws opn fs) := S2.out.later (below_box w2 _)
  have B3 : Hid (Below Wb.heap.size Wb (w2.alloc (.cells #[.int .i64 (v : Int)] 3))) := B2.out.trans ((below_box w2 _).mono B2.out.size)
  have Z3 : Hid (Wb.heap.size ≤ (w2.alloc (.cells #[.int .i64 (v : Int)] 3)).heap.size) := B3.out.size
  have N3 : Hid (∀ j u, ([.int .i64 (v : Int)] : List Value)[j]? = some u → (w2.alloc (.cells #[.int .i64 (v : Int)] 3)).cell? ((⟨w2.heap.size, 0, none⟩ : Addr).add j) = some u) := World.news_of_block (cs := #[.int .i64 (v : Int)]) (t := 3) (fr := (0, 0)) (heap_alloc_new w2 _)
  have X3 : Hid (∀ u ∈ ([.int .i64 (v : Int)] : List Value), u.oneCell' = true) := fun u hu => by
    obtain rfl : u = .int .i64 (v : Int) := by simpa using hu
    rfl
  clear c0 c1 c2 c3 c5 S2 B2
  go_wp2_with (at_builtin; refine wpList_append_lies _ rfl _ _ 40 rfl Wb.heap.size 3 i3 _ 1 8 Tryz.underlying40 HI3.out HZ30.out HZ31.out HZ32.out rfl (by decide) ov opn.length (intsV opn) rfl S3.out.opnR ⟨w2.heap.size, 0, none⟩ 1 1 [.int .i64 (v : Int)] rfl rfl N3.out X3.out (by decide) (by unfold maxLen; omega) (by omega) Z3.out (w2.heap.size + 1) (by simp) ?_; intro g cap w4 hown4 hgrow hat hglt; have G4 := hid (gro_of_grown hgrow); have O4 := hid hown4; have c4' : w4.cell? ⟨sb, 4, none⟩ = some ov := Lib.cell_of_heap (G4.out.at S3.out.box S3.out.apart.2.2.2.1) 4; have f4' : w4.frozen? ⟨sb, 4, none⟩ = false := Lib.frozen_of_heap (G4.out.at S3.out.box S3.out.apart.2.2.2.1) 4; have A4 := hid hat; clear hown4 hgrow hat hglt c4)
  have S5 : Hid (Sr (w4.setCell ⟨sb, 4, none⟩ (.slice (some ⟨g, 0, none⟩) (opn.length + 1) cap)) Wb.heap.size sb mk (outF gb lb) wv (.slice (some ⟨g, 0, none⟩) (opn.length + 1) cap) fv n (come + 1) (updN num v (come + 1)) (updN low v (come + 1)) ws (opn ++ [v]) fs) := S3.out.pushOpen v _ G4.out O4.out (fun g' hg' => by
    injection hg' with hg'
    have hg'' : g = g' := hg'
    subst hg''
    rcases A4.out with h1 | h1
    · exact .inl h1
    · exact .inr (by rw [h1, World.size_alloc]; exact Nat.le_refl _))
  have B5 : Hid (Below Wb.heap.size Wb (w4.setCell ⟨sb, 4, none⟩ (.slice (some ⟨g, 0, none⟩) (opn.length + 1) cap))) := (B3.out.trans (G4.out.below Wb.heap.size (fun k hk => (own_tag S3.out.opnR hk).1) B3.out.size)).setCell hhi.1 _
  clear S3 B3 Z3 N3 X3 G4 O4 A4 c4' f4'
  generalize hov : (Value.slice (some ⟨g, 0, none⟩) (opn.length + 1) cap) = ov5 at *
  clear hov
  generalize w4.setCell ⟨sb, 4, none⟩ ov5 = w5 at *
  obtain ⟨c0, c1, c2, c3, c4, c5⟩ := S5.out.cells
  have f3 := S5.out.fz 3
  clear c1 c2 c4 c5
  unfold outF at c0
  go_region_law (first
    | (refine step_append_lies _ rfl (.tmp 40) (.tmp 49) 113 rfl Wb.heap.size 132 iS _ 2 32 Tryz.underlying113 HIS.out HZS0.out HZS1.out HZS2.out rfl (by decide) wv ws.length (waysC ws) (by simp [Act.eval, Act.put]) S7.out.wayR ⟨w6.heap.size, 0, none⟩ 1 1 [.int .i64 (v : Int), (.slice ra (lst (edge L labels v) n).length rc)] (by simp [Act.eval, Act.put]) rfl N7.out X7.out (by decide) (by unfold maxLen; omega) (by omega) Z7.out (w6.heap.size + 1) (by simp) ?_; intro g8 cap8 w8 hown8 hgrow8 hat8 hglt8; have G8 := hid (gro_of_grown hgrow8); have O8 := hid hown8; have c3'' : w8.cell? ⟨sb, 3, none⟩ = some wv := Lib.cell_of_heap (G8.out.at S7.out.box S7.out.apart.2.1) 3; have f3'' : w8.frozen? ⟨sb, 3, none⟩ = false := Lib.frozen_of_heap (G8.out.at S7.out.box S7.out.apart.2.1) 3; clear hown8 hgrow8 hat8 hglt8)
    | (rw [if_pos (by simp [Region.wanted])]; go_simp; refine (outc_is (HE.out.later B5.out.drew) v hv).mono ?_; rintro e w6 ⟨⟨rv, rfl, i6⟩, b6⟩; obtain ⟨ra, rc, rfl⟩ := i6.form; have I6 := hid i6; have B6 : Hid (Below w5.heap.size w5 w6) := ((Below.refl _ _).drew.trans b6); have c3' : w6.cell? ⟨sb, 3, none⟩ = some wv := (S5.out.later B6.out).cells.2.2.2.1; have f3' : w6.frozen? ⟨sb, 3, none⟩ = false := (S5.out.later B6.out).fz 3; have S7 : Hid (Sr (w6.alloc (.cells #[.int .i64 (v : Int), (.slice ra (lst (edge L labels v) n).length rc)] 132)) Wb.heap.size sb mk (outF gb lb) wv ov5 fv n (come + 1) (updN num v (come + 1)) (updN low v (come + 1)) ws (opn ++ [v]) fs) := ((S5.out.later B6.out).later (below_box w6 _)); have B7 : Hid (Below Wb.heap.size Wb (w6.alloc (.cells #[.int .i64 (v : Int), (.slice ra (lst (edge L labels v) n).length rc)] 132))) := (B5.out.trans ((B6.out.trans ((below_box w6 _).mono B6.out.size)).mono B5.out.size)); have Z7 : Hid (Wb.heap.size ≤ (w6.alloc (.cells #[.int .i64 (v : Int), (.slice ra (lst (edge L labels v) n).length rc)] 132)).heap.size) := B7.out.size; have N7 : Hid (∀ j u, ([.int .i64 (v : Int), (.slice ra (lst (edge L labels v) n).length rc)] : List Value)[j]? = some u → (w6.alloc (.cells #[.int .i64 (v : Int), (.slice ra (lst (edge L labels v) n).length rc)] 132)).cell? ((⟨w6.heap.size, 0, none⟩ : Addr).add j) = some u) := (World.news_of_block (cs := #[.int .i64 (v : Int), (.slice ra (lst (edge L labels v) n).length rc)]) (t := 132) (fr := (0, 0)) (heap_alloc_new w6 _)); have P7 : Hid (Part (OffB Wb.heap.size ov5) (w6.alloc (.cells #[.int .i64 (v : Int), (.slice ra (lst (edge L labels v) n).length rc)] 132)) (.slice ra (lst (edge L labels v) n).length rc) (natI (lst (edge L labels v) n))) := ((I6.out.later (below_box w6 _)).partOff (fun g7 hg7 => ⟨by have h1 := B5.out.size; have h2 : w5.drew.heap.size = w5.heap.size := rfl; omega, fun e => by have h2 : w5.drew.heap.size = w5.heap.size := rfl; obtain ⟨_, c, hc⟩ := own_tag S5.out.opnR e; have := blt hc; omega⟩)); have X7 : Hid (∀ u ∈ ([.int .i64 (v : Int), (.slice ra (lst (edge L labels v) n).length rc)] : List Value), u.oneCell' = true) := (by intro u hu; simp only [List.mem_cons, List.not_mem_nil, or_false] at hu; rcases hu with rfl | rfl <;> rfl); have hl6 : sb < w6.heap.size := blt (S5.out.later B6.out).box; clear i6 b6))
  all_goals (try go_wp2_with fail)
  all_goals
    go_end0
    exact ⟨rfl, ⟨_, _, _, S7.out.pushWay v (lst (edge L labels v) n) _ _ G8.out O8.out P7.out⟩, (B7.out.trans (G8.out.below Wb.heap.size (fun k hk => (own_tag S7.out.wayR hk).1) B7.out.size)).setCell hhi.1 _⟩
end Go.Proofs.YtdihbeffomibeaaGreatDoor
namespace Go.Proofs.YtdihbeffomibeaaGreatDoor
set_option linter.unusedVariables false
set_option linter.unusedSimpArgs false
open Go.RowKit

theorem putN_snoc (f : Nat → Nat) (l : List Nat) (v x : Nat) : updN (putN f l x) v x = putN f (l ++ [v]) x := by
  funext k
  unfold updN putN
  by_cases h1 : k = v
  · rw [if_pos h1, if_pos (by simp [h1])]
  · rw [if_neg h1]
    by_cases h2 : k ∈ l
    · rw [if_pos h2, if_pos (by simp [h2])]
    · rw [if_neg h2, if_neg (by simp [h1, h2])]
theorem putN_nil (f : Nat → Nat) (x : Nat) : putN f [] x = f := by
  funext k
  unfold putN
  rw [if_neg (by simp)]
theorem Tryz.infoInts : (Tryz.prog.info? 40).map (fun i => (i.zero, i.size, i.bytes)) = some (some (.slice none 0 0), 1, 24) := by kernel_rfl
/-- The nodes of a row from a place on. -/
theorem Sr.openAt {w : World} {H sb mk : Nat} {outf wv fv : Value} {n come : Nat} {num low : Nat → Nat} {ws : List Stp} {O1 S : List Nat} {fs : List (List Nat × Value)} {g N cap : Nat} (h : Sr w H sb mk outf wv (.slice (some ⟨g, 0, none⟩) N cap) fv n come num low ws (O1 ++ S) fs) (j : Nat) (hj : j < S.length) :
    w.cell? ⟨g, O1.length + j, none⟩ = some (.int .i64 ((S.getD j 0 : Nat) : Int)) := by
  have hr := h.opnR
  have h1 : (intsV (O1 ++ S))[O1.length + j]? = some (.int .i64 ((S.getD j 0 : Nat) : Int)) := by
    simp [intsV, List.getElem?_append_right, List.getD, hj]
  have := hr.cells (g := g) rfl (O1.length + j) _ h1
  rw [Addr.add_lit, Nat.zero_add] at this
  exact this

set_option maxHeartbeats 8000000 in
set_option maxRecDepth 100000 in
theorem close_is {Wb w : World} (hB : Below Wb.heap.size Wb w) {sb mk : Nat} {outf wv fv : Value} {n come : Nat} {num low : Nat → Nat} {ws : List Stp} {O1 S : List Nat} {fs : List (List Nat × Value)} {g N cap : Nat}
    (h : Sr w Wb.heap.size sb mk outf wv (.slice (some ⟨g, 0, none⟩) N cap) fv n come num low ws (O1 ++ S) fs) (hS : ∀ v ∈ S, v < n) (h0 : 0 < S.length) (hl : S.length ≤ 300) (hf : fs.length ≤ 300) (c' : Nat) (hc' : S.length ≤ c') :
    Calls Tryz.prog 93 #[.pointer (some ⟨sb, 0, none⟩), .slice (some ⟨g, O1.length, none⟩) S.length c'] w fun e w' => e = .returned (.tuple #[]) ∧ (∃ cv fv', Sr w' Wb.heap.size sb mk outf wv (.slice (some ⟨g, 0, none⟩) N cap) fv' n come (putN num S KK) (putN low S KK) ws (O1 ++ S) (fs ++ [(srt S, cv)])) ∧ Below Wb.heap.size Wb w' := by
  obtain ⟨iI, hiI, hzI⟩ := Option.map_eq_some_iff.1 Tryz.infoInts
  simp only [Prod.mk.injEq] at hzI
  obtain ⟨zI0, zI1, zI2⟩ := hzI
  have HII := hid hiI
  have HZ0 := hid zI0
  have HZ1 := hid zI1
  have HZ2 := hid zI2
  clear hiI zI0 zI1 zI2
  have hhi := h.high
  have HS := hid hS
  have S0 := hid h
  have B0 := hid hB
  have hli : (S.length : Int) ≤ 300 := by omega
  clear h hB hS
  go_enter Tryz.func93, Tryz.ntmps93
  go_wp2_with fail
  go_loopg [8] S.length (fun gg i wr => ∃ k : Nat, k ≤ S.length ∧ S.length - k ≤ gg ∧ i = .int .i64 k ∧ Aside (Sr wr Wb.heap.size sb mk outf wv (.slice (some ⟨g, 0, none⟩) N cap) fv n come (putN num (S.take k) KK) (putN low (S.take k) KK) ws (O1 ++ S) fs) ∧ Aside (Below Wb.heap.size Wb wr))
  case atStart => exact ⟨0, Nat.zero_le _, by omega, rfl, by show Sr _ _ _ _ _ _ _ _ _ _ _ _ _ _ _; rw [List.take_zero, putN_nil, putN_nil]; exact S0.out, B0.out⟩
  case round =>
    clear S0 B0
    obtain ⟨k, hk, hg, rfl, SX, BX⟩ := hrel
    by_cases hlt : k < S.length
    · have hlti : (k : Int) < S.length := by omega
      have hk0 : (0 : Int) ≤ k := by omega
      have cx := SX.out.openAt k hlt
      have hxn : S.getD k 0 < n := HS.out _ (by simp [List.getD, hlt])
      have hx : S.take (k + 1) = S.take k ++ [S.getD k 0] := by
        rw [List.take_succ_eq_append_getElem hlt]
        simp [List.getD, hlt]
      have HX := hid hx
      generalize S.getD k 0 = x at *
      clear hx
      obtain ⟨c0, c1, c2, c3, c4, c5⟩ := SX.out.cells
      obtain ⟨m0, m1, g0, g1⟩ := SX.out.marks.cell x hxn
      have hxi : (x : Int) < n := by omega
      have hx0 : (0 : Int) ≤ x := by omega
      have SN : Hid (Sr ((wr.setCell ⟨mk, x * 2, none⟩ (.int .i64 9223372036854775807)).setCell ⟨mk, x * 2 + 1, none⟩ (.int .i64 9223372036854775807)) Wb.heap.size sb mk outf wv (.slice (some ⟨g, 0, none⟩) N cap) fv n come (putN num (S.take (k + 1)) KK) (putN low (S.take (k + 1)) KK) ws (O1 ++ S) fs) := by
        have q1 := SX.out.mark (x * 2) (.int .i64 ((KK : Nat) : Int)) (SX.out.marks.num x KK hxn)
        have q2 := q1.mark (x * 2 + 1) (.int .i64 ((KK : Nat) : Int)) (q1.marks.low x KK hxn)
        rw [putN_snoc, putN_snoc, ← HX.out] at q2
        exact q2
      have BN : Hid (Below Wb.heap.size Wb ((wr.setCell ⟨mk, x * 2, none⟩ (.int .i64 9223372036854775807)).setCell ⟨mk, x * 2 + 1, none⟩ (.int .i64 9223372036854775807))) := (BX.out.setCell hhi.2 _).setCell hhi.2 _
      clear c0 c2 c3 c4 c5 SX BX
      go_wp2_with fail
      go_roundg (S.length - (k + 1))
      · exact ⟨k + 1, by omega, by omega, by go_num, SN.out, BN.out⟩
      · omega
    · have hlti : ¬ (k : Int) < S.length := by omega
      have hkk : k = S.length := by omega
      subst hkk
      have S1 : Hid (Sr wr Wb.heap.size sb mk outf wv (.slice (some ⟨g, 0, none⟩) N cap) fv n come (putN num S KK) (putN low S KK) ws (O1 ++ S) fs) := by
        have := SX.out
        rw [List.take_length] at this
        exact this
      clear SX
      obtain ⟨c0, c1, c2, c3, c4, c5⟩ := S1.out.cells
      have f5 := S1.out.fz 5
      clear c0 c1 c2 c3 c4
      have hsl : sb < wr.heap.size := blt S1.out.box
      have B2 : Hid (Below wr.heap.size wr (wr.alloc (.cells #[.slice (some ⟨g, O1.length, none⟩) S.length c'] 40)).drew) := (below_box wr _).drew
      have SO : Hid (Calls Tryz.prog 105 #[.func (.func 114) #[] #[.pointer (some ⟨wr.heap.size, 0, none⟩)]] (wr.alloc (.cells #[.slice (some ⟨g, O1.length, none⟩) S.length c'] 40)).drew fun e w' => (∃ v, e = .returned v ∧ Ints (wr.alloc (.cells #[.slice (some ⟨g, O1.length, none⟩) S.length c'] 40)).drew.heap.size w' v (srt S)) ∧ Below (wr.alloc (.cells #[.slice (some ⟨g, O1.length, none⟩) S.length c'] 40)).drew.heap.size (wr.alloc (.cells #[.slice (some ⟨g, O1.length, none⟩) S.length c'] 40)).drew w') :=
        sorted_is wr.heap.size _ S c' _ h0 (by omega) hc' (new_cells wr #[.slice (some ⟨g, O1.length, none⟩) S.length c'] 40 0) (by show wr.heap.size < (wr.alloc _).heap.size; simp) (fun j hj => by
          have := S1.out.openAt j hj
          have hgl : g < wr.heap.size := World.block_lt_of_cell? _ _ this
          exact ⟨g, O1.length, rfl, by show g < (wr.alloc _).heap.size; simp; omega, (B2.out.cell (p := ⟨g, O1.length + j, none⟩) hgl).trans this⟩)
      go_wp2_with fail
      go_region_law (first
        | (refine step_append_lies _ rfl (.tmp 24) (.tmp 28) 81 rfl Wb.heap.size 40 iI _ 1 24 Tryz.underlying81 HII.out HZ0.out HZ1.out HZ2.out rfl (by decide) fv fs.length (fs.map Prod.snd) (by simp [Act.eval, Act.put]) S7.out.fndR ⟨w6.heap.size, 0, none⟩ 1 1 [.slice va S.length vc] (by simp [Act.eval, Act.put]) rfl N7.out X7.out (by decide) (by unfold maxLen; omega) (by omega) Z7.out (w6.heap.size + 1) (by simp) ?_; intro g8 cap8 w8 hown8 hgrow8 hat8 hglt8; have G8 := hid (gro_of_grown hgrow8); have O8 := hid hown8; have c5'' : w8.cell? ⟨sb, 5, none⟩ = some fv := Lib.cell_of_heap (G8.out.at S7.out.box S7.out.apart.2.2.2.2.2.1) 5; have f5'' : w8.frozen? ⟨sb, 5, none⟩ = false := Lib.frozen_of_heap (G8.out.at S7.out.box S7.out.apart.2.2.2.2.2.1) 5; clear hown8 hgrow8 hat8 hglt8)
        | (rw [if_pos (by simp [Region.wanted])]; go_simp; refine (values_is _ _ _ _).mono ?_; rintro e w5 ⟨rfl, rfl⟩)
        | (rw [if_pos (by simp [Region.wanted])]; go_simp; refine SO.out.mono ?_; rintro e w6 ⟨⟨cv, rfl, i6⟩, b6⟩; obtain ⟨va, vc, hcv⟩ := i6.form; rw [srt_len] at hcv; subst hcv; have I6 := hid i6; have B6 : Hid (Below wr.heap.size wr w6) := (B2.out.trans (b6.mono B2.out.size)); have c5' : w6.cell? ⟨sb, 5, none⟩ = some fv := (S1.out.later B6.out).cells.2.2.2.2.2; have f5' : w6.frozen? ⟨sb, 5, none⟩ = false := (S1.out.later B6.out).fz 5; have S7 : Hid (Sr (w6.alloc (.cells #[.slice va S.length vc] 40)) Wb.heap.size sb mk outf wv (.slice (some ⟨g, 0, none⟩) N cap) fv n come (putN num S KK) (putN low S KK) ws (O1 ++ S) fs) := ((S1.out.later B6.out).later (below_box w6 _)); have B7 : Hid (Below Wb.heap.size Wb (w6.alloc (.cells #[.slice va S.length vc] 40))) := (BX.out.trans ((B6.out.trans ((below_box w6 _).mono B6.out.size)).mono BX.out.size)); have Z7 : Hid (Wb.heap.size ≤ (w6.alloc (.cells #[.slice va S.length vc] 40)).heap.size) := B7.out.size; have N7 : Hid (∀ j u, ([.slice va S.length vc] : List Value)[j]? = some u → (w6.alloc (.cells #[.slice va S.length vc] 40)).cell? ((⟨w6.heap.size, 0, none⟩ : Addr).add j) = some u) := (World.news_of_block (cs := #[.slice va S.length vc]) (t := 40) (fr := (0, 0)) (heap_alloc_new w6 _)); have P7 : Hid (Part (OffB Wb.heap.size (.slice (some ⟨g, 0, none⟩) N cap)) (w6.alloc (.cells #[.slice va S.length vc] 40)) (.slice va S.length vc) (natI (srt S))) := ((I6.out.later (below_box w6 _)).partOff (fun g7 hg7 => ⟨by have h1 := BX.out.size; have h2 := B2.out.size; omega, fun e => by have h2 := B2.out.size; obtain ⟨_, c, hc⟩ := own_tag S1.out.opnR e; have := blt hc; omega⟩)); have X7 : Hid (∀ u ∈ ([.slice va S.length vc] : List Value), u.oneCell' = true) := (by intro u hu; simp only [List.mem_cons, List.not_mem_nil, or_false] at hu; subst hu; rfl); have hl6 : sb < w6.heap.size := blt (S1.out.later B6.out).box; clear i6 b6))
      all_goals (try go_wp2_with fail)
      all_goals
        go_end0
        exact ⟨rfl, ⟨_, _, S7.out.pushFound (srt S) _ _ G8.out O8.out P7.out⟩, (B7.out.trans (G8.out.below Wb.heap.size (fun k hk => (own_tag S7.out.fndR hk).1) B7.out.size)).setCell hhi.1 _⟩
end Go.Proofs.YtdihbeffomibeaaGreatDoor
