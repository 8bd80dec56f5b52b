/-
  The code's Parse: what its deferred closure does with a fault that was given up with, and where there is none.
  The code's Parse: a text's history, or its first fault.
  The text of a history is read as it: plain.
  What is read may be: plain.
  Walk of the code's Print of histories.
  The reference's text of a history, plain: it is what the code's tokens are printed as.
  Walk of the reference's op at operations of kind 1.
  Walk of the reference's op at operations of kind 2.
-/
import Derived.Test.YtfgbjghfkdmcjaaGreatDoorF13
import Derived.Defers
import Derived.Laws.Pointers
import Derived.Test.YtfgbjghfkdmcjaaGreatDoorF8
import Derived.Laws.Concat
import Derived.RegionTactic
import Derived.BigRegion
namespace Go.Proofs.YtfgbjghfkdmcjaaGreatDoor
set_option linter.unusedVariables false
set_option linter.unusedSimpArgs false
open Go.RowKit

theorem assertFault2 (a y : Int) (w : World) : (Instr.typeAssert (.iface 38 (.agg #[.int .i64 a, .int .i64 y])) 20 38 true).run Tryz.prog w = .ok (.tuple #[.agg #[.int .i64 a, .int .i64 y], .bool true]) w := by kernel_rfl
set_option maxHeartbeats 4000000 in
set_option maxRecDepth 100000 in
theorem catch_fault (pl pe : Nat) (a y : Int) (lv ev : Value) (older : List PanicEntry) (w : World) (hc : w.cell? ⟨pl, 0, none⟩ = some (.slice none 0 0)) (he : w.cell? ⟨pe, 0, none⟩ = some .nilIface) (hz : w.frozen? ⟨pl, 0, none⟩ = false) (hy : w.frozen? ⟨pe, 0, none⟩ = false) (hne : pl ≠ pe) :
    CallsD Tryz.prog 11 #[.pointer (some ⟨pl, 0, none⟩), .pointer (some ⟨pe, 0, none⟩)] (.panicking ({ v := .iface 38 (.agg #[.int .i64 a, .int .i64 y]), recovered := false } :: older)) w fun e u' w' =>
      e = .returned (.tuple #[]) ∧ u' = .panicking ({ v := .iface 38 (.agg #[.int .i64 a, .int .i64 y]), recovered := true } :: older) ∧ w'.cell? ⟨pl, 0, none⟩ = some (.slice none 0 0) ∧ w'.cell? ⟨pe, 0, none⟩ = some (.iface 38 (.agg #[.int .i64 a, .int .i64 y])) ∧ w.heap.size ≤ w'.heap.size ∧ (∀ b, b < w.heap.size → b ≠ pl → b ≠ pe → w'.heap[b]? = w.heap[b]?) ∧ w'.os = w.os ∧ w'.tape = w.tape ∧ w'.output = w.output := by
  have hpl : pl < w.heap.size := World.block_lt_of_cell? _ _ hc
  have hpe : pe < w.heap.size := World.block_lt_of_cell? _ _ he
  have hta := assertFault2 a y
  refine callsD_of_wpS Tryz.func11 rfl fun c₀ cs hu => ?_
  apply wpS_seq
  apply wpS_region
  simp [wpOpsS, go_sem, recoverD, hu, Tryz.ntmps11, Exit.thenS]
  refine wpS_of_wp ?_
  have e1 : (#[Value.pointer (some ⟨pl, 0, none⟩), Value.pointer (some ⟨pe, 0, none⟩)] ++ ((Array.replicate 16 undef).setIfInBounds 3 (Value.iface 38 (.agg #[.int .i64 a, .int .i64 y]))).setIfInBounds 0 (Value.iface 38 (.agg #[.int .i64 a, .int .i64 y])) : Array Value) = #[Value.pointer (some ⟨pl, 0, none⟩), Value.pointer (some ⟨pe, 0, none⟩), Value.iface 38 (.agg #[.int .i64 a, .int .i64 y]), undef, undef, Value.iface 38 (.agg #[.int .i64 a, .int .i64 y]), undef, undef, undef, undef, undef, undef, undef, undef, undef, undef, undef, undef] := rfl
  rw [e1]
  clear e1
  go_wp2_with fail
  go_region
  have hs1 : ((w.setCell ⟨pl, 0, none⟩ (.slice none 0 0)).setCell ⟨pe, 0, none⟩ (.iface 38 (.agg #[.int .i64 a, .int .i64 y]))).heap.size = w.heap.size := by simp [World.setCell]
  have c1 : ((w.setCell ⟨pl, 0, none⟩ (.slice none 0 0)).setCell ⟨pe, 0, none⟩ (.iface 38 (.agg #[.int .i64 a, .int .i64 y]))).cell? ⟨pl, 0, none⟩ = some (.slice none 0 0) := (World.cell?_setCell_other _ _ _ _ (by simp [Ne.symm hne])).trans (World.cell?_setCell_same _ _ _ hc)
  have c2 : ((w.setCell ⟨pl, 0, none⟩ (.slice none 0 0)).setCell ⟨pe, 0, none⟩ (.iface 38 (.agg #[.int .i64 a, .int .i64 y]))).cell? ⟨pe, 0, none⟩ = some (.iface 38 (.agg #[.int .i64 a, .int .i64 y])) := World.cell?_setCell_same _ _ _ ((World.cell?_setCell_other _ _ _ _ (by simp [hne])).trans he)
  refine ⟨rfl, _, rfl, .tuple #[], results_none rfl _ _ _, rfl, rfl, Lib.cell?_alloc_some _ c1, Lib.cell?_alloc_some _ c2, ?_, fun b hb h1 h2 => ?_, rfl, rfl, rfl⟩
  · show w.heap.size ≤ (World.alloc _ _).heap.size
    simp [World.setCell]
  · refine (Lib.alloc_old _ _ _ (by rw [hs1]; exact hb)).trans ?_
    simp only [World.setCell, Array.getElem?_modify]
    rw [if_neg (fun c => h2 c.symm), if_neg (fun c => h1 c.symm)]
set_option maxHeartbeats 4000000 in
set_option maxRecDepth 100000 in
theorem catch_idle (p q : Addr) (w : World) :
    CallsD Tryz.prog 11 #[.pointer (some p), .pointer (some q)] .returning w fun e u' w' => e = .returned (.tuple #[]) ∧ u' = .returning ∧ w' = w := by
  refine callsD_of_wpS Tryz.func11 rfl fun c₀ cs hu => ?_
  apply wpS_seq
  apply wpS_region
  simp [wpOpsS, go_sem, recoverD, hu, Tryz.ntmps11, Exit.thenS]
  refine wpS_of_wp ?_
  have e1 : (#[Value.pointer (some p), Value.pointer (some q)] ++ ((Array.replicate 16 undef).setIfInBounds 3 Value.nilIface).setIfInBounds 0 Value.nilIface : Array Value) = #[Value.pointer (some p), Value.pointer (some q), Value.nilIface, undef, undef, Value.nilIface, undef, undef, undef, undef, undef, undef, undef, undef, undef, undef, undef, undef] := rfl
  rw [e1]
  clear e1
  go_wp2_with fail
  refine ⟨rfl, _, ?_, .tuple #[], results_none rfl _ _ _, rfl, rfl, rfl⟩
  cases c₀
  simp_all
end Go.Proofs.YtfgbjghfkdmcjaaGreatDoor
namespace Go.Proofs.YtfgbjghfkdmcjaaGreatDoor
set_option linter.unusedVariables false
set_option linter.unusedSimpArgs false
open Go.RowKit

/-- A text's history, plain. -/
def parseM (s : ByteArray) : Except (Int × Int) (List MEv) := match scanM s with
  | .ok T => pHist (s.size : Int) (T.length + 1) T []
  | .error (a, y) => .error ((a : Int), (y : Int))
theorem parseM_ok {s : ByteArray} {T : List MTok} (h : scanM s = .ok T) : parseM s = pHist (s.size : Int) (T.length + 1) T [] := by unfold parseM; rw [h]
theorem parseM_err {s : ByteArray} {a y : Nat} (h : scanM s = .error (a, y)) : parseM s = .error ((a : Int), (y : Int)) := by unfold parseM; rw [h]
/-- What Parse answers. -/
def ParseT (w : World) (r : Except (Int × Int) (List MEv)) (e : Ending) (w' : World) : Prop := match r with
  | .ok l => ∃ v, e = .returned (.tuple #[v, .nilIface]) ∧ EvsIn (fun b => w.heap.size ≤ b) w' v l
  | .error f => e = .returned (.tuple #[.slice none 0 0, .iface 38 (.agg #[.int .i64 f.1, .int .i64 f.2])])
theorem left_of_toks {B : Nat} {w : World} {v : Value} {l : List MTok} {S : Nat → Prop} (h : ToksIn S w v l) (hB : w.heap.size ≤ B) : LeftP B w v l := by
  obtain ⟨ao, c, hv, hl, hc⟩ := h
  refine ⟨ao, c, hv, fun h0 => ?_⟩
  obtain ⟨b, off, ha, hS, hj⟩ := hc h0
  refine ⟨b, off, ha, ?_, fun j hjl i u hi => ?_⟩
  · obtain ⟨cs, h1, h2, h3⟩ := hj 0 h0
    exact Nat.lt_of_lt_of_le (World.block_lt_of_cell? _ _ (h3 0 cs[0] (List.getElem?_eq_getElem (by omega)))) hB
  · obtain ⟨cs, h1, h2, h3⟩ := hj j hjl
    have h2' : cs = tkC (l.getD j default) := h2
    subst h2'
    exact h3 i u hi
theorem scanFrom_len {s : ByteArray} : ∀ (f i : Nat) (acc l : List MTok), scanFrom s f i acc = .ok l → l.length ≤ acc.length + f
  | 0, i, acc, l, h => by cases h; omega
  | f + 1, i, acc, l, h => by
    unfold scanFrom at h
    split at h
    · split at h
      · have := scanFrom_len f _ _ _ h; omega
      · split at h
        · cases h
        · have := scanFrom_len f _ _ _ h; simp at this; omega
    · cases h; omega
theorem scanM_few {s : ByteArray} {l : List MTok} (h : scanM s = .ok l) : l.length ≤ 20000 ∧ s.size ≤ 20000 := by
  unfold scanM at h
  split at h
  · cases h
  · rename_i hs
    have := scanFrom_len _ _ _ _ h
    simp at this
    omega
set_option maxHeartbeats 8000000 in
set_option maxRecDepth 100000 in
theorem parse_is (s : ByteArray) (w : World) (te : TypeId) (pe : Value) (hv : w.cell? ⟨1, 0, none⟩ = some (.iface te pe)) :
    Calls Tryz.prog 4 #[.string s] w fun e w' => ParseT w (parseM s) e w' ∧ Below w.heap.size w w' := by
  have hmf : ∀ (fn : Fn) (first cap : Array Value) (w : World), (Instr.makeFunc fn first cap).run Tryz.prog w = .ok (.func fn first cap) w := fun _ _ _ _ => rfl
  have h1lt := World.block_lt_of_cell? _ _ hv
  obtain ⟨W0, hW0⟩ : ∃ W0, (w.alloc (.cells #[.slice none 0 0] 22)).alloc (.cells #[.nilIface] 24) = W0 := ⟨_, rfl⟩
  have B0 : Hid (Below w.heap.size w W0) := by rw [← hW0]; exact ((Below.refl _ w).alloc (Nat.le_refl _) _).alloc (by simp) _
  have hs0 : Hid (W0.heap.size = w.heap.size + 2) := by rw [← hW0]; show _ = _; simp
  have l0 : W0.cell? ⟨w.heap.size, 0, none⟩ = some (.slice none 0 0) := by rw [← hW0]; exact Lib.cell?_alloc_some _ (new_cells w _ 22 0)
  have lz : W0.frozen? ⟨w.heap.size, 0, none⟩ = false := by rw [← hW0]; exact ((below_box (w.alloc (.cells #[.slice none 0 0] 22)) _).frozen (p := ⟨w.heap.size, 0, none⟩) (by simp)).trans (Lib.frozen_of_heap (heap_alloc_new w _) 0)
  have e0 : W0.cell? ⟨w.heap.size + 1, 0, none⟩ = some .nilIface := by rw [← hW0]; simp
  have ez : W0.frozen? ⟨w.heap.size + 1, 0, none⟩ = false := by rw [← hW0]; have q := Lib.frozen_of_heap (heap_alloc_new (w.alloc (.cells #[.slice none 0 0] 22)) (.cells #[.nilIface] 24)) 0; rw [show (w.alloc (.cells #[.slice none 0 0] 22)).heap.size = w.heap.size + 1 by simp] at q; exact q
  have SC := hid (scan_any s W0 te pe (by rw [B0.out.cell (p := ⟨1, 0, none⟩) h1lt]; exact hv))
  have hlen := hs0.out
  cases hsc : scanM s with
  | error q =>
    obtain ⟨a, y⟩ := q
    rw [parseM_err hsc]
    rw [hsc] at SC
    go_enter_defers Tryz.func4, Tryz.ntmps4
    go_wp2_with fail
    go_at_call 10
    refine SC.out.mono ?_
    rintro e w1 ⟨rfl, b1⟩
    have l1 : w1.cell? ⟨w.heap.size, 0, none⟩ = some (.slice none 0 0) := (b1.cell (p := ⟨w.heap.size, 0, none⟩) (show w.heap.size < W0.heap.size by omega)).trans l0
    have e1 : w1.cell? ⟨w.heap.size + 1, 0, none⟩ = some .nilIface := (b1.cell (p := ⟨w.heap.size + 1, 0, none⟩) (show w.heap.size + 1 < W0.heap.size by omega)).trans e0
    have lz1 : w1.frozen? ⟨w.heap.size, 0, none⟩ = false := (b1.frozen (p := ⟨w.heap.size, 0, none⟩) (show w.heap.size < W0.heap.size by omega)).trans lz
    have ez1 : w1.frozen? ⟨w.heap.size + 1, 0, none⟩ = false := (b1.frozen (p := ⟨w.heap.size + 1, 0, none⟩) (show w.heap.size + 1 < W0.heap.size by omega)).trans ez
    have B1 : Hid (Below w.heap.size w w1) := B0.out.trans (b1.mono B0.out.size)
    clear b1 hW0 l0 lz e0 ez
    go_wp2_with fail
    go_region
    go_wp2_with fail
    refine ⟨.tuple #[.slice none 0 0, .iface 38 (.agg #[.int .i64 (a : Int), .int .i64 (y : Int)])], by simp [results, Tryz.results4, go_sem, l1, e1], rfl, ?_⟩
    exact below_drew1 (((B1.out.setCell (p := ⟨w.heap.size + 1, 0, none⟩) (Nat.le_succ _) _).setCell (p := ⟨w.heap.size, 0, none⟩) (Nat.le_refl _) _).setCell (p := ⟨w.heap.size + 1, 0, none⟩) (Nat.le_succ _) _)
  | ok T =>
    rw [parseM_ok hsc]
    rw [hsc] at SC
    go_enter_defers Tryz.func4, Tryz.ntmps4
    go_wp2_with fail
    go_at_call 10
    refine SC.out.mono ?_
    rintro e w1 ⟨⟨v, rfl, htk⟩, b1⟩
    have l1 : w1.cell? ⟨w.heap.size, 0, none⟩ = some (.slice none 0 0) := (b1.cell (p := ⟨w.heap.size, 0, none⟩) (show w.heap.size < W0.heap.size by omega)).trans l0
    have e1 : w1.cell? ⟨w.heap.size + 1, 0, none⟩ = some .nilIface := (b1.cell (p := ⟨w.heap.size + 1, 0, none⟩) (show w.heap.size + 1 < W0.heap.size by omega)).trans e0
    have lz1 : w1.frozen? ⟨w.heap.size, 0, none⟩ = false := (b1.frozen (p := ⟨w.heap.size, 0, none⟩) (show w.heap.size < W0.heap.size by omega)).trans lz
    have ez1 : w1.frozen? ⟨w.heap.size + 1, 0, none⟩ = false := (b1.frozen (p := ⟨w.heap.size + 1, 0, none⟩) (show w.heap.size + 1 < W0.heap.size by omega)).trans ez
    have B1 : Hid (Below w.heap.size w w1) := B0.out.trans (b1.mono B0.out.size)
    have B01 := hid b1
    have TK := hid htk
    obtain ⟨ta, tc, rfl, htk1, htk2⟩ := id htk
    clear htk1 htk2 htk b1 hW0 l0 lz e0 ez
    have hself := setCell_self e1
    have hs1 : W0.heap.size ≤ w1.heap.size := B01.out.size
    have HFEW := hid (scanM_few hsc)
    have HWDS := hid (wds_scan hsc)
    clear hsc
    go_wp2_with fail
    go_at_call 12
    have PB0 : PB w1.heap.size (s.size : Int) T 0 (w1.alloc (.cells #[.slice ta T.length tc, .int .i64 0, .int .i64 (s.size : Int)] 42)) :=
      ⟨⟨_, new_cells w1 _ 42 0, (left_of_toks TK.out (Nat.le_refl _)).keep (below_box w1 _)⟩, new_cells w1 _ 42 1, new_cells w1 _ 42 2, Lib.frozen_of_heap (heap_alloc_new w1 _) 1, Nat.zero_le _, HFEW.out.1⟩
    refine (history_is w1.heap.size (s.size : Int) T _ HWDS.out PB0).mono ?_
    rintro e w2 h2
    have cl : ∀ q : Nat, q < 2 → (w1.alloc (.cells #[.slice ta T.length tc, .int .i64 0, .int .i64 (s.size : Int)] 42)).heap[w.heap.size + q]? = w1.heap[w.heap.size + q]? := fun q hq => Lib.alloc_old _ _ _ (by omega)
    cases hph : pHist (s.size : Int) (T.length + 1) T [] with
    | error f =>
      rw [hph] at h2
      obtain ⟨rfl, b2⟩ := h2
      have k0 : w2.heap[w.heap.size]? = w1.heap[w.heap.size]? := (b2.block _ (by simp; omega) (by omega)).trans (cl 0 (by omega))
      have k1 : w2.heap[w.heap.size + 1]? = w1.heap[w.heap.size + 1]? := (b2.block _ (by simp; omega) (by omega)).trans (cl 1 (by omega))
      have l2 : w2.cell? ⟨w.heap.size, 0, none⟩ = some (.slice none 0 0) := (World.cell?_of_block (w := w1) k0).trans l1
      have e2 : w2.cell? ⟨w.heap.size + 1, 0, none⟩ = some .nilIface := (World.cell?_of_block (w := w1) k1).trans e1
      have lz2 : w2.frozen? ⟨w.heap.size, 0, none⟩ = false := (show w2.frozen? ⟨w.heap.size, 0, none⟩ = w1.frozen? ⟨w.heap.size, 0, none⟩ by unfold World.frozen?; rw [k0]).trans lz1
      have ez2 : w2.frozen? ⟨w.heap.size + 1, 0, none⟩ = false := (show w2.frozen? ⟨w.heap.size + 1, 0, none⟩ = w1.frozen? ⟨w.heap.size + 1, 0, none⟩ by unfold World.frozen?; rw [k1]).trans ez1
      refine leaves_cons (f := 11) (args := #[.pointer (some ⟨w.heap.size, 0, none⟩), .pointer (some ⟨w.heap.size + 1, 0, none⟩)]) (by simp) (by simp [go_sem]) ?_
      refine (catch_fault w.heap.size (w.heap.size + 1) f.1 f.2 .nilIface .nilIface [] w2 l2 e2 lz2 ez2 (by omega)).mono ?_
      rintro e u' w3 ⟨rfl, rfl, c1, c2, hsz, hb, o1, o2, o3⟩
      refine ⟨.tuple #[.slice none 0 0, .iface 38 (.agg #[.int .i64 f.1, .int .i64 f.2])], by simp [results, Tryz.results4, go_sem, c1, c2], ?_, ?_⟩
      · rw [hph]; rfl
      · have hsb := b2.size
        have hbx : (w1.alloc (.cells #[.slice ta T.length tc, .int .i64 0, .int .i64 (s.size : Int)] 42)).heap.size = w1.heap.size + 1 := by simp
        exact ⟨o1.trans (b2.os.trans B1.out.os), o2.trans (b2.tape.trans B1.out.tape), o3.trans (b2.output.trans B1.out.output), by have := B1.out.size; omega, fun b hlt => (hb b (by omega) (by omega) (by omega)).trans ((b2.block b (by omega) (by omega)).trans ((Lib.alloc_old _ _ _ (by omega)).trans (B1.out.block b hlt)))⟩
    | ok l =>
      rw [hph] at h2
      obtain ⟨⟨v, rfl, hev⟩, b2⟩ := h2
      have k0 : w2.heap[w.heap.size]? = w1.heap[w.heap.size]? := (b2.block _ (by simp; omega) (by omega)).trans (cl 0 (by omega))
      have k1 : w2.heap[w.heap.size + 1]? = w1.heap[w.heap.size + 1]? := (b2.block _ (by simp; omega) (by omega)).trans (cl 1 (by omega))
      have l2 : w2.cell? ⟨w.heap.size, 0, none⟩ = some (.slice none 0 0) := (World.cell?_of_block (w := w1) k0).trans l1
      have e2 : w2.cell? ⟨w.heap.size + 1, 0, none⟩ = some .nilIface := (World.cell?_of_block (w := w1) k1).trans e1
      have lz2 : w2.frozen? ⟨w.heap.size, 0, none⟩ = false := (show w2.frozen? ⟨w.heap.size, 0, none⟩ = w1.frozen? ⟨w.heap.size, 0, none⟩ by unfold World.frozen?; rw [k0]).trans lz1
      have ez2 : w2.frozen? ⟨w.heap.size + 1, 0, none⟩ = false := (show w2.frozen? ⟨w.heap.size + 1, 0, none⟩ = w1.frozen? ⟨w.heap.size + 1, 0, none⟩ by unfold World.frozen?; rw [k1]).trans ez1
      obtain ⟨va, vc, rfl, hv1, hv2⟩ := id hev
      clear hv1 hv2
      have hsb := b2.size
      have hbx : (w1.alloc (.cells #[.slice ta T.length tc, .int .i64 0, .int .i64 (s.size : Int)] 42)).heap.size = w1.heap.size + 1 := by simp
      have HEV := hid hev
      have HB := hid b2
      have HPH := hid hph
      clear hev b2 hph cl
      go_wp2_with fail
      refine leaves_cons (f := 11) (args := #[.pointer (some ⟨w.heap.size, 0, none⟩), .pointer (some ⟨w.heap.size + 1, 0, none⟩)]) (by simp) (by simp [go_sem]) ?_
      refine (catch_idle _ _ _).mono ?_
      rintro e u' w3 ⟨rfl, rfl, rfl⟩
      refine ⟨.tuple #[.slice va l.length vc, .nilIface], by simp [results, Tryz.results4, go_sem, l2, e2], ?_, ?_⟩
      · rw [HPH.out]
        refine ⟨_, rfl, EvsIn.keep HEV.out (fun b hb hlt => ?_) (fun b _ hb => by omega)⟩
        have hb' : (w1.alloc (.cells #[.slice ta T.length tc, .int .i64 0, .int .i64 (s.size : Int)] 42)).heap.size ≤ b := hb
        simp only [World.setCell, Array.getElem?_modify]
        rw [if_neg (by omega), if_neg (by omega)]
      · have hm : Below w.heap.size w w2 := ⟨HB.out.os.trans B1.out.os, HB.out.tape.trans B1.out.tape, HB.out.output.trans B1.out.output, by have := B1.out.size; omega, fun b hlt => (HB.out.block b (by omega) (by omega)).trans ((Lib.alloc_old _ _ _ (by omega)).trans (B1.out.block b hlt))⟩
        exact (hm.setCell (p := ⟨w.heap.size, 0, none⟩) (Nat.le_refl _) _).setCell (p := ⟨w.heap.size + 1, 0, none⟩) (Nat.le_succ _) _
end Go.Proofs.YtfgbjghfkdmcjaaGreatDoor
namespace Go.Proofs.YtfgbjghfkdmcjaaGreatDoor
set_option linter.unusedVariables false
set_option linter.unusedSimpArgs false
open Go.RowKit

theorem evWord_word (k : Int) : isWordB (evWord k) = true := by
  unfold evWord
  split
  · decide +kernel
  · split
    · decide +kernel
    · split
      · decide +kernel
      · decide +kernel
theorem opWord_word (k : Int) : isWordB (opWord k) = true := by
  unfold opWord
  split
  · decide +kernel
  · split
    · decide +kernel
    · split
      · decide +kernel
      · decide +kernel
theorem key_isWord {s : ByteArray} (h : keyOk s = true) : isWordB s = true := by
  unfold keyOk at h
  rw [Bool.and_eq_true] at h
  exact h.1
theorem op_toks {o : MOp} (hk : keyOk o.key = true) (hv : inI o.value) (hl : ∀ x ∈ o.list, inI x) : ∀ t ∈ opT o, TokOk (fullT t) := by
  have hw : ∀ s : ByteArray, isWordB s = true → TokOk (fullT (wordT s)) := fun s h => tok_word h
  intro t ht
  simp only [opT, List.mem_append, List.mem_cons, List.not_mem_nil, or_false] at ht
  rcases ht with ((ht | ht | ht) | ht) | ht
  · rw [ht]; exact tok_mark (by decide)
  · rw [ht]; exact hw _ (opWord_word _)
  · rw [ht]; exact hw _ (key_isWord hk)
  · unfold midT at ht
    split at ht
    · simp only [List.mem_cons, List.not_mem_nil, or_false] at ht
      rw [ht]; exact tok_num hv
    · split at ht
      · cases ht
      · split at ht
        · simp only [List.mem_append, List.mem_cons, List.not_mem_nil, or_false, List.mem_map] at ht
          rcases ht with (ht | ⟨x, hx, ht⟩) | ht
          · rw [ht]; exact tok_mark (by decide)
          · rw [← ht]; exact tok_num (hl x hx)
          · rw [ht]; exact tok_mark (by decide)
        · split at ht
          · simp only [List.mem_cons, List.not_mem_nil, or_false] at ht
            rw [ht]; exact hw _ (by decide +kernel)
          · simp only [List.mem_cons, List.not_mem_nil, or_false] at ht
            rw [ht]; exact tok_num hv
  · rw [ht]; exact tok_mark (by decide)
theorem hist_toks {l : List MEv} (hc : ∀ e ∈ l, evOk e = true) (hv : ValsFit l) : ∀ t ∈ toksOf l, TokOk (fullT t) := by
  intro t ht
  simp only [toksOf, List.mem_flatMap] at ht
  obtain ⟨e, he, ht⟩ := ht
  obtain ⟨hh, ho⟩ := ev_parts (hc e he)
  unfold evHead at hh
  simp only [evT, List.mem_append, List.mem_cons, List.not_mem_nil, or_false, List.mem_flatMap] at ht
  rcases ht with ((ht | ht) | ⟨o, hoe, ht⟩) | ht
  · rw [ht]; exact tok_word (evWord_word _)
  · rw [ht]; exact tok_num ⟨by omega, by omega⟩
  · exact op_toks (ho o hoe).1 (hv e he o hoe).1 (hv e he o hoe).2 t ht
  · rw [ht]; exact tok_line
theorem evT_three (e : MEv) : 3 ≤ (evT e).length := by
  simp only [evT, List.length_append, List.length_cons, List.length_nil]
  omega
theorem toks_three : ∀ (l : List MEv), 3 * l.length ≤ (toksOf l).length
  | [] => Nat.zero_le _
  | e :: l => by
    have h1 := evT_three e
    have h2 := toks_three l
    have : toksOf (e :: l) = evT e ++ toksOf l := by simp [toksOf]
    rw [this, List.length_append, List.length_cons]
    omega
/-- The text of a history is read as it. -/
theorem parse_back {l : List MEv} {p : ByteArray} (hc : canM l = true) (hv : ValsFit l) (hp : p.data.toList = printL false (toksOf l)) (hsz : p.size ≤ 20000) : parseM p = .ok l := by
  obtain ⟨h3, he⟩ := can_parts hc
  have hsc : ∃ T', scanM p = .ok T' ∧ Eqv T' (toksOf l) := by
    rw [scanM_left hsz]
    obtain ⟨l', e1, e2⟩ := left_again (s := p) ((toksOf l).map fullT) false 0 [] (fun t ht => by
      obtain ⟨u, hu, rfl⟩ := List.mem_map.1 ht
      exact hist_toks he hv u hu) (by rw [List.drop_zero, print_full]; exact hp)
    have h1 := eqv_bare e2
    have h2 := eqv_full (toksOf l)
    exact ⟨l', by simpa using e1, Eq.trans h1 h2⟩
  obtain ⟨T', hT, hE⟩ := hsc
  rw [parseM_ok hT]
  have hlen : T'.length = (toksOf l).length := by have := congrArg List.length hE; simpa using this
  have h5 := toks_three l
  have hs := sm_hist (en := (p.size : Int)) (en' := 0) (T'.length + 1) [] hE
  rw [read_hist l [] (T'.length + 1) he (by simpa using h3) (by omega), List.nil_append] at hs
  cases hq : pHist (p.size : Int) (T'.length + 1) T' [] with
  | error e => rw [hq] at hs; exact hs.elim
  | ok m => rw [hq] at hs; exact congrArg Except.ok hs
end Go.Proofs.YtfgbjghfkdmcjaaGreatDoor
namespace Go.Proofs.YtfgbjghfkdmcjaaGreatDoor
set_option linter.unusedVariables false
set_option linter.unusedSimpArgs false
open Go.RowKit

/-- Tokens as scanning makes them. -/
def Toks (l : List MTok) : Prop := ∀ t ∈ l, TokOk t
theorem Toks.tail {l : List MTok} (h : Toks l) : Toks l.tail := fun t ht => h t (List.mem_of_mem_tail ht)
theorem Toks.cons {t : MTok} {l : List MTok} (h : Toks (t :: l)) : Toks l := fun x hx => h x (List.mem_cons_of_mem _ hx)
theorem Toks.wds {l : List MTok} (h : Toks l) : Wds l := by
  intro t ht h1
  rcases h t ht with ⟨_, _, b, r, hx, hb, hr⟩ | h | h | h
  · exact word_of hx hb hr
  · omega
  · omega
  · omega
theorem Toks.num {t : MTok} {l : List MTok} (h : Toks (t :: l)) (h2 : t.1 = 2) : inI t.2.2.2 := by
  rcases h t (List.mem_cons_self ..) with h | h | h | h
  · omega
  · exact ⟨h.2.1, h.2.2.1⟩
  · omega
  · omega
/-- What is taken is as it must be. -/
def Gd {α : Type} (p : Ps α) (P : α → Prop) : Prop := match p with
  | .ok z => P z.1 ∧ Toks z.2
  | .error _ => True
theorem Gd.bind {α β : Type} {p : Ps α} {f : α → List MTok → Ps β} {P : α → Prop} {Q : β → Prop} (h : Gd p P) (hf : ∀ x l, P x → Toks l → Gd (f x l) Q) : Gd (andP p f) Q := by
  cases p with
  | error e => trivial
  | ok z => exact hf z.1 z.2 h.1 h.2
theorem gd_fail {α : Type} {P : α → Prop} (en why : Int) (l : List MTok) : Gd (pFail en why l) P := trivial
theorem gd_ok {α : Type} {P : α → Prop} {x : α} {l : List MTok} (h1 : P x) (h2 : Toks l) : Gd (.ok (x, l)) P := ⟨h1, h2⟩
section
variable {en : Int}
theorem gd_mark (x : ByteArray) {l : List MTok} (h : Toks l) : Gd (pMark en x l) fun _ => True := by
  unfold pMark
  split
  · exact gd_ok trivial h.tail
  · exact gd_fail _ _ _
theorem gd_num {l : List MTok} (h : Toks l) : Gd (pNum en l) inI := by
  cases l with
  | nil => exact gd_fail _ _ _
  | cons t r =>
    unfold pNum
    dsimp only
    split
    · rename_i e; exact gd_ok (h.num e) h.cons
    · exact gd_fail _ _ _
theorem gd_proc {l : List MTok} (h : Toks l) : Gd (pProc en l) fun n => 0 ≤ n ∧ n ≤ 99 := by
  cases l with
  | nil => exact gd_fail _ _ _
  | cons t r =>
    unfold pProc
    dsimp only
    split
    · rename_i e; exact gd_ok e.2 h.cons
    · exact gd_fail _ _ _
theorem gd_key {l : List MTok} (h : Toks l) : Gd (pKey en l) fun s => keyOk s = true := by
  cases l with
  | nil => exact gd_fail _ _ _
  | cons t r =>
    unfold pKey
    dsimp only
    split
    · rename_i e; exact gd_ok e.2 h.cons
    · exact gd_fail _ _ _
theorem gd_from {l : List MTok} (h : Toks l) (N : Int) : ∀ (ws : List ByteArray) (k : Nat), 1 ≤ k → (k : Int) + ws.length ≤ N + 1 → Gd (pKind en l k ws) fun n => 1 ≤ n ∧ n ≤ N
  | [], k, _, _ => gd_fail _ _ _
  | x :: xs, k, hk, hn => by
    simp only [List.length_cons] at hn
    unfold pKind
    split
    · exact gd_ok ⟨by omega, by omega⟩ h.tail
    · exact gd_from h N xs (k + 1) (by omega) (by omega)
theorem gd_kind {l : List MTok} (h : Toks l) (ws : List ByteArray) (hw : ws.length = 4) : Gd (pKind en l 0 (⟨#[]⟩ :: ws)) fun n => 1 ≤ n ∧ n ≤ 4 := by
  unfold pKind
  rw [sees_empty h.wds]
  exact gd_from h 4 ws 1 (by omega) (by rw [hw]; decide)
theorem gd_nums : ∀ {l : List MTok} (acc : List Int), Toks l → acc.length ≤ 40 → (∀ x ∈ acc, inI x) → Gd (pNums en l acc) fun xs => xs.length ≤ 40 ∧ ∀ x ∈ xs, inI x
  | [], acc, h, h4, ha => gd_ok ⟨h4, ha⟩ h
  | t :: r, acc, h, h4, ha => by
    unfold pNums
    split
    · rename_i e
      split
      · exact gd_fail _ _ _
      · refine gd_nums (acc ++ [t.2.2.2]) h.cons (by simp; omega) (fun x hx => ?_)
        rcases List.mem_append.1 hx with hx | hx
        · exact ha x hx
        · simp only [List.mem_cons, List.not_mem_nil, or_false] at hx
          rw [hx]; exact h.num e
    · exact gd_ok ⟨h4, ha⟩ h
theorem gd_list {l : List MTok} (h : Toks l) : Gd (pList en l) fun xs => xs.length ≤ 40 ∧ ∀ x ∈ xs, inI x :=
  (gd_mark _ h).bind fun _ _ _ h1 => (gd_nums [] h1 (by simp) (fun x hx => by cases hx)).bind fun xs _ hx h2 => (gd_mark _ h2).bind fun _ _ _ h3 => gd_ok hx h3
/-- An operation that may be, its numbers in range. -/
def GoodO (o : MOp) : Prop := keyOk o.key = true ∧ opOk o = true ∧ inI o.value ∧ ∀ x ∈ o.list, inI x
theorem inI0 : inI 0 := ⟨by decide, by decide⟩
theorem gd_mid {k : Int} {s : ByteArray} (hs : keyOk s = true) (hk : 1 ≤ k ∧ k ≤ 4) {l : List MTok} (h : Toks l) : Gd (pMid en k s l) GoodO := by
  have none : ∀ x ∈ ([] : List Int), inI x := fun x hx => by cases hx
  have hk4 : k = 1 ∨ k = 2 ∨ k = 3 ∨ k = 4 := by omega
  rcases hk4 with rfl | rfl | rfl | rfl
  · rw [pMid_1]
    exact (gd_num h).bind fun x _ hx h1 => gd_ok ⟨hs, rfl, hx, none⟩ h1
  · cases e : seesP l 3 ⟨#[40]⟩ with
    | true =>
      rw [pMid_2yes e]
      refine (gd_list h).bind fun xs _ hx h1 => gd_ok ⟨hs, ?_, inI0, hx.2⟩ h1
      have h40 := hx.1
      simp [opOk, MOp.kind, MOp.value, MOp.nl, MOp.has, len, MOp.list]
      omega
    | false =>
      rw [pMid_2no e]
      exact gd_ok ⟨hs, rfl, inI0, none⟩ h
  · rw [pMid_3]
    exact (gd_num h).bind fun x _ hx h1 => gd_ok ⟨hs, rfl, hx, none⟩ h1
  · unfold pMid
    rw [if_neg (by omega), if_pos rfl]
    split
    · exact gd_ok ⟨hs, rfl, inI0, none⟩ h.tail
    · cases l with
      | nil => exact gd_ok ⟨hs, rfl, inI0, none⟩ h
      | cons t r =>
        dsimp only
        split
        · rename_i e; exact gd_ok ⟨hs, rfl, h.num e, none⟩ h.cons
        · exact gd_ok ⟨hs, rfl, inI0, none⟩ h
theorem gd_op {l : List MTok} (h : Toks l) : Gd (pOp en l) GoodO :=
  (gd_mark _ h).bind fun _ _ _ h1 => (gd_kind h1 rOpWords rfl).bind fun k _ hk h2 => (gd_key h2).bind fun s _ hs h3 => (gd_mid hs hk h3).bind fun o _ ho h4 => (gd_mark _ h4).bind fun _ _ _ h5 => gd_ok ho h5
theorem gd_ops : ∀ (f : Nat) {l : List MTok} (acc : List MOp), Toks l → acc.length ≤ 8 → 1 ≤ acc.length → (∀ o ∈ acc, GoodO o) → Gd (pOps en f l acc) fun os => os.length ≤ 8 ∧ 1 ≤ os.length ∧ ∀ o ∈ os, GoodO o
  | 0, l, acc, h, h8, h1, ha => gd_ok ⟨h8, h1, ha⟩ h
  | f + 1, l, acc, h, h8, h1, ha => by
    unfold pOps
    split
    · split
      · exact gd_fail _ _ _
      · refine (gd_op h).bind fun o _ ho h1 => gd_ops f (acc ++ [o]) h1 (by simp; omega) (by simp) (fun x hx => ?_)
        rcases List.mem_append.1 hx with hx | hx
        · exact ha x hx
        · simp only [List.mem_cons, List.not_mem_nil, or_false] at hx
          rw [hx]; exact ho
    · exact gd_ok ⟨h8, h1, ha⟩ h
theorem gd_end {l : List MTok} (h : Toks l) : Gd (pEnd en l) fun _ => True := by
  cases l with
  | nil => exact gd_ok trivial h
  | cons t r =>
    unfold pEnd
    dsimp only
    split
    · exact gd_ok trivial h
    · exact gd_fail _ _ _
/-- An event that may be, its numbers in range. -/
def GoodE (e : MEv) : Prop := evHead e ∧ ∀ o ∈ e.ops, GoodO o
theorem gd_ev {l : List MTok} (h : Toks l) : Gd (pEv en l) GoodE := by
  have hb : ∀ k m, (1 ≤ k ∧ k ≤ 4) → Toks m → Gd (pEvB en k m) GoodE := fun k m hk hm =>
    (gd_proc hm).bind fun p _ hp h2 => (gd_op h2).bind fun o _ ho h3 => (gd_ops 10 [o] h3 (by simp) (by simp) (fun x hx => by simp only [List.mem_cons, List.not_mem_nil, or_false] at hx; rw [hx]; exact ho)).bind fun os _ hos h4 => gd_ok ⟨⟨hk.1, hk.2, hp.1, hp.2, hos.2.1, hos.1⟩, hos.2.2⟩ h4
  exact ((gd_kind h rEvWords rfl).bind fun k _ hk h1 => hb k _ hk h1).bind fun e _ he h4 => (gd_end h4).bind fun _ _ _ h5 => gd_ok he h5
theorem gd_hist : ∀ (f : Nat) {l : List MTok} (out : List MEv), Toks l → out.length ≤ 300 → (∀ e ∈ out, GoodE e) → ∀ m, pHist en f l out = .ok m → m.length ≤ 300 ∧ ∀ e ∈ m, GoodE e
  | 0, l, out, h, h3, ho, m, hm => by cases hm; exact ⟨h3, ho⟩
  | f + 1, [], out, h, h3, ho, m, hm => by rw [pHist_nil] at hm; cases hm; exact ⟨h3, ho⟩
  | f + 1, t :: r, out, h, h3, ho, m, hm => by
    by_cases h4 : t.1 = 4
    · rw [pHist_line _ _ _ _ h4] at hm
      exact gd_hist f out h.cons h3 ho m hm
    · by_cases hf : out.length = 300
      · rw [pHist_full _ _ _ _ h4 hf] at hm; cases hm
      · have hg := gd_ev (en := en) h
        cases hp : pEv en (t :: r) with
        | error e => rw [pHist_bad _ _ _ _ e h4 hf hp] at hm; cases hm
        | ok z =>
          rw [pHist_more _ _ _ _ z h4 hf hp] at hm
          rw [hp] at hg
          refine gd_hist f (out ++ [z.1]) hg.2 (by simp; omega) (fun x hx => ?_) m hm
          rcases List.mem_append.1 hx with hx | hx
          · exact ho x hx
          · simp only [List.mem_cons, List.not_mem_nil, or_false] at hx
            rw [hx]; exact hg.1
end
theorem good_can {l : List MEv} (h3 : l.length ≤ 300) (h : ∀ e ∈ l, GoodE e) : canM l = true := by
  unfold canM
  rw [Bool.and_eq_true, decide_eq_true_eq]
  refine ⟨h3, List.all_eq_true.2 (fun e he => ?_)⟩
  obtain ⟨h1, h2⟩ := h e he
  unfold evOk
  rw [decide_eq_true h1, Bool.true_and]
  exact List.all_eq_true.2 (fun o ho => by unfold opKey; rw [(h2 o ho).1, (h2 o ho).2.1]; rfl)
/-- What is read may be, and its numbers are in range. -/
theorem parse_can {s : ByteArray} {l : List MEv} (h : parseM s = .ok l) : canM l = true ∧ ValsFit l ∧ KeysFit l := by
  have hg : l.length ≤ 300 ∧ ∀ e ∈ l, GoodE e := by
    cases hs : scanM s with
    | error q => obtain ⟨a, y⟩ := q; rw [parseM_err hs] at h; cases h
    | ok T =>
      rw [parseM_ok hs] at h
      exact gd_hist _ [] (scanM_form hs) (by simp) (fun e he => by cases he) l h
  refine ⟨good_can hg.1 hg.2, fun e he o ho => ⟨((hg.2 e he).2 o ho).2.2.1, ((hg.2 e he).2 o ho).2.2.2⟩, fun e he o ho => ?_⟩
  have := key_size ((hg.2 e he).2 o ho).1
  omega
end Go.Proofs.YtfgbjghfkdmcjaaGreatDoor
namespace Go.Proofs.YtfgbjghfkdmcjaaGreatDoor
set_option linter.unusedVariables false
set_option linter.unusedSimpArgs false
open Go.RowKit

set_option maxHeartbeats 8000000 in
set_option maxRecDepth 100000 in
/-- The code's Print, at a history that may be. -/
theorem printH_yes (v : Value) (l : List MEv) (w : World) (te : TypeId) (pe : Value) (hv : w.cell? ⟨0, 0, none⟩ = some pe) (htab : Pow10 w) (h : EvsIn Any w v l) (hc : canM l = true) (hvf : ValsFit l) :
    Calls Tryz.prog 8 #[v] w fun e w' => e = .returned (.string ⟨(printL false (toksOf l)).toArray⟩) ∧ Below w.heap.size w w' := by
  obtain ⟨i0, hi, hz0, hz1, hz2⟩ := info_parts Tryz.infoTok
  have HCAN := hid (can_any v l w te pe hv h)
  rw [hc] at HCAN
  have HT : Hid (Lib.TabBelow Tryz.prog w.heap.size w "internal/strconv.uint64pow10" .u64 Lib.pow10Tab) := Lib.tabBelow_of_tabIs htab
  have hs : EvsIn (fun b => b < w.heap.size) w v l := h.keep (fun _ _ _ => rfl) (fun b hb _ => hb)
  obtain ⟨hl3, hall⟩ := can_parts hc
  have HALL := hid hall
  have HVF := hid hvf
  obtain ⟨a1, c1, rfl, hbig, k0⟩ := RowsIn.cells hs (by omega)
  have HC := hid k0
  clear hs k0 h hv htab hc hall hvf
  go_enter Tryz.func8, Tryz.ntmps8
  go_wp2_with fail
  refine HCAN.out.mono ?_
  rintro e w1 ⟨rfl, b1⟩
  have B1 := hid b1
  clear b1
  go_wp2_with fail
  go_loopg [3, 13] l.length (fun g vr i wr => ∃ k : Nat, k ≤ l.length ∧ l.length - k ≤ g ∧ i = .int .i64 k ∧ Aside (wr.ownsRow w.heap.size 51 4 vr (toksOf (l.take k)).length (flat (toksOf (l.take k)))) ∧ Aside (Below w.heap.size w wr))
  case atStart => exact ⟨0, Nat.zero_le _, by omega, rfl, World.ownsRow_nil _ _ _ _, B1.out⟩
  case round =>
    obtain ⟨k, hk, hg, rfl, O, BW⟩ := hrel
    generalize wr = W0 at *
    by_cases hlt : k < l.length
    · have hlti : (k : Int) < (l.length : Int) := by omega
      obtain ⟨b1, o1, cs1, rfl, hb1, _, ⟨ov, rfl, i1⟩, k1⟩ := HC.out k hlt
      have d0 : W0.cell? ⟨b1, o1 + k * 3, none⟩ = _ := (BW.out.cell (p := ⟨b1, o1 + k * 3, none⟩) hb1).trans (k1 0 _ rfl)
      have d1 := (BW.out.cell (p := ⟨b1, o1 + k * 3 + 1, none⟩) hb1).trans (k1 1 _ rfl)
      have d2 := (BW.out.cell (p := ⟨b1, o1 + k * 3 + 2, none⟩) hb1).trans (k1 2 _ rfl)
      clear k1
      have hsz := BW.out.size
      obtain ⟨oa, oc, rfl, _, ro⟩ := RowsIn.cells i1 (by omega)
      have RO := hid ro
      clear i1 ro
      obtain ⟨hh, hops⟩ := ev_parts (HALL.out _ (mem_at hlt))
      have HTK : Hid (toksOf (l.take (k + 1)) = toksOf (l.take k) ++ evT (l.getD k default)) := take_flat evT hlt
      have hTl : (toksOf (l.take k)).length ≤ 111300 := by
        have := toks_len (l.take k) (fun e he => HALL.out e (List.mem_of_mem_take he))
        rw [List.length_take] at this
        omega
      generalize toksOf (l.take k) = T at *
      have hT2 : T.length + 2 ≤ 1000000 := r2 hTl (by omega)
      generalize l.getD k default = X at *
      obtain ⟨ek, ep, xs⟩ := X
      simp only [MEv.kind, MEv.proc, MEv.ops] at *
      have hkk : 1 ≤ ek ∧ ek ≤ 4 := ⟨hh.1, hh.2.1⟩
      have hx8 : xs.length ≤ 8 := hh.2.2.2.2.2
      have HOPS := hid hops
      clear hh hops
      have hap : AP w.heap.size W0 _ W0.heap.size [.int .i64 ek, .int .i64 ep, .slice oa xs.length oc] (W0.alloc (.cells #[.int .i64 ek, .int .i64 ep, .slice oa xs.length oc] 56)) _ T :=
        ⟨owns_keep O.out (fun g hg => Lib.alloc_old W0 _ g (O.out.lt g hg).2), (Below.refl _ _).alloc hsz _, hsz, fun i u hi => (new_cells W0 _ 56 i).trans (by simpa using hi), by simp, fun e => by have := (O.out.lt _ e).2; omega, fun k hk _ => Lib.alloc_old W0 _ k hk, fun g hg => .inl hg⟩
      have P0 := hid hap
      clear hap
      go_wp2_with fail
      clear d0 d1 d2
      generalize W0.alloc (.cells #[.int .i64 ek, .int .i64 ep, .slice oa xs.length oc] 56) = w5 at P0 ⊢
      have x0 : w5.cell? ⟨W0.heap.size, 0, none⟩ = _ := P0.out.box 0 _ rfl
      have x1 : w5.cell? ⟨W0.heap.size, 1, none⟩ = _ := P0.out.box 1 _ rfl
      have IX := fun W => ix_ev hkk W
      go_region_held3 (fun w' => w'.cell? ⟨W0.heap.size, 0, none⟩ = some (.int .i64 ek) ∧ w'.cell? ⟨W0.heap.size, 1, none⟩ = some (.int .i64 ep))
        (first | exact ⟨x0, x1⟩ | exact ⟨y0 _, y1 _⟩ | exact ⟨P1.out.box 0 _ rfl, P1.out.box 1 _ rfl⟩ | go_keep)
        ((first
          | (refine step_append_lies _ (by rfl) _ _ 34 (by rfl) w.heap.size 51 i0 _ 4 40 Tryz.underlying34 hi hz0 hz1 hz2 rfl (by decide) _ T.length (flat T) (by rfl) (P0.out.later (below_box w5 _)).own ⟨w5.heap.size, 0, none⟩ 2 2 [.int .i64 1, .int .i64 0, .string (evWord ek), .int .i64 0, .int .i64 2, .int .i64 0, .string ⟨#[]⟩, .int .i64 ep] (by rfl) (by rfl) (World.news_of_block (cs := #[.int .i64 1, .int .i64 0, .string (evWord ek), .int .i64 0, .int .i64 2, .int .i64 0, .string ⟨#[]⟩, .int .i64 ep]) (t := 51) (fr := (0, 0)) (heap_alloc_new w5 _)) (by simp [Value.oneCell']) (by decide) (room_max hT2 mil) (room_le hT2 mil) (P0.out.later (below_box w5 _)).size (w5.heap.size + 1) (by simp) ?_
             intro g cap w6 hown hgrow hat hglt
             have P1 := hid ((P0.out.later (below_box w5 (.cells #[.int .i64 1, .int .i64 0, .string (evWord ek), .int .i64 0, .int .i64 2, .int .i64 0, .string ⟨#[]⟩, .int .i64 ep] 51))).grown (ts := [wordT (evWord ek), numT ep]) (by simp) rfl hown hgrow (by simp) hat)
             clear hown hgrow hat hglt)
          | (go_at_call 24
             refine (evWords_any _).mono ?_
             rintro e w5 ⟨rfl, b5⟩
             have P0 := hid (P0.out.later (Below.trans (by repeat (first | exact Below.refl _ _ | apply Below.drew)) b5))
             have x0 : w5.cell? ⟨W0.heap.size, 0, none⟩ = _ := P0.out.box 0 _ rfl
             have x1 : w5.cell? ⟨W0.heap.size, 1, none⟩ = _ := P0.out.box 1 _ rfl
             have y0 : ∀ o, (w5.alloc o).cell? ⟨W0.heap.size, 0, none⟩ = _ := fun o => Lib.cell?_alloc_some _ x0
             have y1 : ∀ o, (w5.alloc o).cell? ⟨W0.heap.size, 1, none⟩ = _ := fun o => Lib.cell?_alloc_some _ x1
             clear b5)
          | (go_at_call 23
             refine (word_any _ _).mono ?_
             rintro e w5 ⟨rfl, b5⟩
             have P0 := hid (P0.out.later (Below.trans (by repeat (first | exact Below.refl _ _ | apply Below.drew)) b5))
             have x0 : w5.cell? ⟨W0.heap.size, 0, none⟩ = _ := P0.out.box 0 _ rfl
             have x1 : w5.cell? ⟨W0.heap.size, 1, none⟩ = _ := P0.out.box 1 _ rfl
             have y0 : ∀ o, (w5.alloc o).cell? ⟨W0.heap.size, 0, none⟩ = _ := fun o => Lib.cell?_alloc_some _ x0
             have y1 : ∀ o, (w5.alloc o).cell? ⟨W0.heap.size, 1, none⟩ = _ := fun o => Lib.cell?_alloc_some _ x1
             clear b5)
          | (go_at_call 25
             refine (numb_any _ _).mono ?_
             rintro e w5 ⟨rfl, b5⟩
             have P0 := hid (P0.out.later (Below.trans (by repeat (first | exact Below.refl _ _ | apply Below.drew)) b5))
             have x0 : w5.cell? ⟨W0.heap.size, 0, none⟩ = _ := P0.out.box 0 _ rfl
             have x1 : w5.cell? ⟨W0.heap.size, 1, none⟩ = _ := P0.out.box 1 _ rfl
             have y0 : ∀ o, (w5.alloc o).cell? ⟨W0.heap.size, 0, none⟩ = _ := fun o => Lib.cell?_alloc_some _ x0
             have y1 : ∀ o, (w5.alloc o).cell? ⟨W0.heap.size, 1, none⟩ = _ := fun o => Lib.cell?_alloc_some _ x1
             clear b5)))
      clear x0 x1 y0 y1
      have c2 : w6.cell? ⟨W0.heap.size, 2, none⟩ = _ := P1.out.box 2 _ rfl
      go_wp2_with fail
      clear c2 IX
      go_loopg [3, 31] xs.length (fun g vq i wq => ∃ q : Nat, q ≤ xs.length ∧ xs.length - q ≤ g ∧ i = .int .i64 q ∧ Aside (AP w.heap.size W0 u3 W0.heap.size [.int .i64 ek, .int .i64 ep, .slice oa xs.length oc] wq vq ((T ++ [wordT (evWord ek), numT ep]) ++ (xs.take q).flatMap opT)))
      case atStart => exact ⟨0, Nat.zero_le _, by omega, rfl, by rw [List.take_zero, List.flatMap_nil, List.append_nil]; exact P1.out⟩
      case round =>
        obtain ⟨q, hq, hgq, rfl, I⟩ := hrel
        have hLq : ((T ++ [wordT (evWord ek), numT ep]) ++ (xs.take q).flatMap opT).length ≤ 200000 := by
          have := ops_len (xs.take q) (fun o ho => (opOk_list (HOPS.out o (List.mem_of_mem_take ho)).2).1)
          rw [List.length_take] at this
          simp only [List.length_append, List.length_cons, List.length_nil]
          omega
        have BB : Hid (Below w.heap.size w wr) := BW.out.trans I.out.below
        by_cases hlq : q < xs.length
        · have hlqi : (q : Int) < (xs.length : Int) := by omega
          obtain ⟨b2, o2, cs2, rfl, hb2, _, ⟨l1, rfl, i1⟩, k1⟩ := RO.out q hlq
          have e0 : wr.cell? ⟨b2, o2 + q * 6, none⟩ = _ := (BB.out.cell (p := ⟨b2, o2 + q * 6, none⟩) hb2).trans (k1 0 _ rfl)
          have e1 := (BB.out.cell (p := ⟨b2, o2 + q * 6 + 1, none⟩) hb2).trans (k1 1 _ rfl)
          have e2 := (BB.out.cell (p := ⟨b2, o2 + q * 6 + 2, none⟩) hb2).trans (k1 2 _ rfl)
          have e3 := (BB.out.cell (p := ⟨b2, o2 + q * 6 + 3, none⟩) hb2).trans (k1 3 _ rfl)
          have e4 := (BB.out.cell (p := ⟨b2, o2 + q * 6 + 4, none⟩) hb2).trans (k1 4 _ rfl)
          have e5 := (BB.out.cell (p := ⟨b2, o2 + q * 6 + 5, none⟩) hb2).trans (k1 5 _ rfl)
          clear k1
          obtain ⟨hy1, hy2, hy3⟩ := opOk_list (HOPS.out _ (mem_at hlq)).2
          have HQ : Hid ((xs.take (q + 1)).flatMap opT = (xs.take q).flatMap opT ++ opT (xs.getD q default)) := take_flat opT hlq
          obtain ⟨al1, cl1, rfl, -⟩ := id i1
          have J1 : Hid (∀ o, IntsIn (fun b => b < w.heap.size) (wr.alloc o) _ (xs.getD q default).list) := fun o => i1.keep (fun b hb _ => ((BB.out.trans ((below_box wr o).mono BB.out.size)).block b hb)) (fun _ _ h => h)
          clear i1
          generalize xs.getD q default = Y at *
          have hYr := r_op hLq hy1
          have HY1 := hid hYr
          have HY2 : Hid (1 ≤ Y.kind ∧ Y.kind ≤ 4) := ⟨hy2, hy3⟩
          clear hYr hy1 hy2 hy3
          go_wp2_with fail
          refine (appendOp_any w.heap.size Y _ _ _ _ HY2.out (I.out.later (below_box wr _)).size (I.out.later (below_box wr _)).own HY1.out (J1.out _)).mono ?_
          rintro e w7 ⟨v7, rfl, own7, bl7, kp7, bk7⟩
          have I7 := hid (I.out.call (below_box wr _) own7 bl7 kp7 bk7)
          clear own7 bl7 kp7 bk7 e0 e1 e2 e3 e4 e5
          go_wp2_with fail
          go_roundg (xs.length - (q + 1))
          case measure => omega
          case rel => exact ⟨q + 1, by omega, by omega, by go_num, by rw [HQ.out, ← List.append_assoc]; exact I7.out⟩
        · have hq' : q = xs.length := by omega
          subst hq'
          rw [List.take_length] at I hLq
          have HE : Hid (((T ++ [wordT (evWord ek), numT ep]) ++ xs.flatMap opT) ++ [lineT] = T ++ evT (ek, ep, xs)) := by
            show _ = _
            simp [evT]
          generalize ((T ++ [wordT (evWord ek), numT ep]) ++ xs.flatMap opT) = L at *
          have hL1 : L.length + 1 ≤ 1000000 := r_line hLq
          have zA := hid (I.out.later (below_box wr (.cells #[.int .i64 4, .int .i64 0, .string ⟨#[]⟩, .int .i64 0] 51)))
          go_wp2_with (at_builtin; refine wpList_append_lies _ rfl _ _ 34 rfl w.heap.size 51 i0 _ 4 40 Tryz.underlying34 hi hz0 hz1 hz2 rfl (by decide) _ L.length _ rfl zA.out.own ⟨wr.heap.size, 0, none⟩ 1 1 [.int .i64 4, .int .i64 0, .string ⟨#[]⟩, .int .i64 0] rfl rfl (World.news_of_block (cs := #[.int .i64 4, .int .i64 0, .string ⟨#[]⟩, .int .i64 0]) (t := 51) (fr := (0, 0)) (heap_alloc_new wr _)) (by simp [Value.oneCell']) (by decide) (room_max hL1 mil) (room_le hL1 mil) zA.out.size (wr.heap.size + 1) (by simp) ?_; intro gz capz z hown hgrow hat hglt)
          have zP := hid (zA.out.grown (ts := [lineT]) (by simp) rfl hown hgrow (by simp) hat)
          clear hown hgrow hat hglt
          go_wp2_with fail
          go_roundg (l.length - (k + 1))
          case measure => omega
          case rel =>
            refine ⟨k + 1, by omega, by omega, by go_num, ?_, BW.out.trans zP.out.below⟩
            have hz := zP.out.own
            rw [HE.out, ← HTK.out] at hz
            exact hz
    · have hk' : k = l.length := by omega
      subst hk'
      rw [List.take_length] at O
      have hTl : (toksOf l).length ≤ 111300 := by
        have := toks_len l HALL.out
        omega
      have hsh := toks_short HALL.out HVF.out
      have hpl : (printL false (toksOf l)).length ≤ 140737488355328 := by
        have := print_short (toksOf l) false hsh
        omega
      have TK := hid (own_toks O.out (by omega))
      have HPL := hid hpl
      have HNM : Hid (NumsOk (toksOf l)) := fun t ht e => (hsh t ht).2 e
      clear hpl hsh
      go_wp2_with fail
      refine (print_any _ (toksOf l) _ TK.out (HT.out _ BW.out) HNM.out HPL.out).mono ?_
      rintro e w8 ⟨rfl, b8⟩
      have B8 : Hid (Below w.heap.size w w8) := BW.out.trans (b8.mono BW.out.size)
      clear b8
      go_wp2_with fail
      go_ret
      exact ⟨rfl, B8.out⟩

/-- The code's Print, at a history that may not be. -/
theorem printH_no (v : Value) (l : List MEv) (w : World) (te : TypeId) (pe : Value) (hv : w.cell? ⟨0, 0, none⟩ = some pe) (h : EvsIn Any w v l) (hc : canM l = false) :
    Calls Tryz.prog 8 #[v] w fun e w' => e = .returned (.string ⟨#[]⟩) ∧ Below w.heap.size w w' := by
  have HCAN := hid (can_any v l w te pe hv h)
  rw [hc] at HCAN
  obtain ⟨a1, c1, rfl, -⟩ := id h
  clear h hv hc
  go_enter Tryz.func8, Tryz.ntmps8
  go_wp2_with fail
  refine HCAN.out.mono ?_
  rintro e w1 ⟨rfl, b1⟩
  have B1 := hid b1
  clear b1
  go_wp2_with fail
  go_ret
  exact ⟨rfl, B1.out⟩
end Go.Proofs.YtfgbjghfkdmcjaaGreatDoor
namespace Go.Proofs.YtfgbjghfkdmcjaaGreatDoor
set_option linter.unusedVariables false
set_option linter.unusedSimpArgs false
open Go.RowKit

/-- A word of the reference's, with a blank behind it. -/
def evPre (k : Int) : List UInt8 := (evWord k).data.toList ++ [32]
def opPre (k : Int) : List UInt8 := (opWord k).data.toList ++ [32]
/-- What stands between an operation's key and its end. -/
def refMid (o : MOp) : List UInt8 :=
  if o.kind = 1 ∨ o.kind = 3 then 32 :: decimal o.value
  else if o.has = false then []
  else if o.kind = 2 then [32, 40] ++ o.list.flatMap (fun v => 32 :: decimal v) ++ [32, 41]
  else if o.nl = true then [32, 110, 105, 108]
  else 32 :: decimal o.value
def refOp (o : MOp) : List UInt8 := [91, 32] ++ opPre o.kind ++ o.key.data.toList ++ refMid o ++ [32, 93]
def refEv (e : MEv) : List UInt8 := evPre e.kind ++ decimal e.proc ++ e.ops.flatMap (fun o => 32 :: refOp o) ++ [10]
def refText (l : List MEv) : List UInt8 := l.flatMap refEv

theorem pT_word (s : ByteArray) (r : List MTok) : printL true (wordT s :: r) = 32 :: (s.data.toList ++ printL true r) := by rw [printL, if_pos (.inl rfl)]; rfl
theorem pF_word (s : ByteArray) (r : List MTok) : printL false (wordT s :: r) = s.data.toList ++ printL true r := by rw [printL, if_pos (.inl rfl)]; rfl
theorem pT_mark (b : UInt8) (r : List MTok) : printL true (markT b :: r) = 32 :: b :: printL true r := by rw [printL, if_pos (.inr rfl)]; rfl
theorem pT_num (n : Int) (r : List MTok) : printL true (numT n :: r) = 32 :: (decimal n ++ printL true r) := by rw [printL, if_neg (by simp), if_pos rfl]; rfl
theorem pT_line (r : List MTok) : printL true (lineT :: r) = 10 :: printL false r := by rw [printL, if_neg (by simp), if_neg (by simp), if_pos rfl]

theorem pT_nums : ∀ (l : List Int) (r : List MTok), printL true (l.map numT ++ r) = l.flatMap (fun v => 32 :: decimal v) ++ printL true r
  | [], r => rfl
  | n :: l, r => by
    rw [List.map_cons, List.cons_append, pT_num, pT_nums l r, List.flatMap_cons]
    simp
theorem pT_mid (o : MOp) (r : List MTok) : printL true (midT o ++ r) = refMid o ++ printL true r := by
  unfold midT refMid
  split
  · rw [List.singleton_append, pT_num]; simp
  · split
    · rfl
    · split
      · rw [List.append_assoc, List.append_assoc, List.singleton_append, pT_mark, pT_nums, List.singleton_append, pT_mark]
        simp
      · split
        · rw [List.singleton_append, pT_word]; rfl
        · rw [List.singleton_append, pT_num]; simp
theorem pT_op (o : MOp) (r : List MTok) : printL true (opT o ++ r) = 32 :: (refOp o ++ printL true r) := by
  unfold opT refOp opPre
  rw [List.append_assoc, List.append_assoc]
  show printL true (markT 91 :: wordT (opWord o.kind) :: wordT o.key :: (midT o ++ ([markT 93] ++ r))) = _
  rw [pT_mark, pT_word, pT_word, pT_mid, List.singleton_append, pT_mark]
  simp
theorem pT_ops : ∀ (xs : List MOp) (r : List MTok), printL true (xs.flatMap opT ++ r) = xs.flatMap (fun o => 32 :: refOp o) ++ printL true r
  | [], r => rfl
  | o :: xs, r => by
    rw [List.flatMap_cons, List.append_assoc, pT_op, pT_ops xs r, List.flatMap_cons]
    simp
theorem pF_ev (e : MEv) (r : List MTok) : printL false (evT e ++ r) = refEv e ++ printL false r := by
  unfold evT refEv evPre
  rw [List.append_assoc, List.append_assoc]
  show printL false (wordT (evWord e.kind) :: numT e.proc :: (e.ops.flatMap opT ++ ([lineT] ++ r))) = _
  rw [pF_word, pT_num, pT_ops, List.singleton_append, pT_line]
  simp
/-- What the code prints is what the reference's says. -/
theorem print_ref : ∀ (l : List MEv), printL false (toksOf l) = refText l
  | [] => rfl
  | e :: l => by
    unfold toksOf refText
    rw [List.flatMap_cons, List.flatMap_cons, pF_ev]
    have := print_ref l
    unfold toksOf refText at this
    rw [this]

/-- Two texts joined. -/
theorem cat (a b : ByteArray) (h : a.size + b.size ≤ 9223372036854775807) : ∃ c : ByteArray, Hid (c.data.toList = a.data.toList ++ b.data.toList) ∧ c.size = a.size + b.size ∧ ∀ wx, (Op.stringOp .add a b).run Tryz.prog wx = .ok (.string c) wx :=
  ⟨a ++ b, by show (a ++ b).data.toList = _; simp [ByteArray.data_append], ByteArray.size_append, fun wx => run_string_add_sum wx _ _ h⟩
theorem dec_text {n : Int} {s : ByteArray} (hn : inI n) (h : s.data.toList = decimal n) : s.size ≤ 21 := by
  have e : s.size = s.data.toList.length := by simp
  rw [e, h]
  unfold inI at hn
  unfold decimal
  split
  · have := (dec_len (v := n.toNat) (by omega)).2; omega
  · have := (dec_len (v := (-n).toNat) (by omega)).2; simp; omega

end Go.Proofs.YtfgbjghfkdmcjaaGreatDoor
namespace Go.Proofs.YtfgbjghfkdmcjaaGreatDoor
set_option linter.unusedVariables false
set_option linter.unusedSimpArgs false
open Go.RowKit

set_option maxHeartbeats 8000000 in
set_option maxRecDepth 100000 in
theorem refOp_1 (s : ByteArray) (vl : Int) (il : List Int) (hs nl : Bool) (lv : Value) (w : World) (hz : s.size ≤ 6) (hv : inI vl) (hvl : ∀ x ∈ il, inI x) (h40 : il.length ≤ 40) (hok : opOk (1, s, vl, il, hs, nl) = true) (hl : IntsIn Any w lv il) :
    Calls Tryz.prog 30 #[.agg #[.int .i64 1, .string s, .int .i64 vl, lv, .bool hs, .bool nl]] w fun e w' => (∃ r : ByteArray, e = .returned (.string r) ∧ r.data.toList = refOp (1, s, vl, il, hs, nl) ∧ r.size ≤ 2000) ∧ Below w.heap.size w w' := by
  obtain ⟨a1, cc1, rfl, hlb, hlc⟩ := id hl
  have HLC := hid hlc
  obtain ⟨A1, t1, z1, p1⟩ := cat ⟨#[91, 32]⟩ ⟨#[97, 112, 112, 101, 110, 100, 32]⟩ (by decide)
  have z1' : A1.size = 2 + 7 := z1
  clear z1
  obtain ⟨A2, t2, z2, p2⟩ := cat A1 s (by omega)
  have HT0 : Hid (A2.data.toList = [91, 32] ++ opPre 1 ++ s.data.toList) := by show A2.data.toList = _; rw [t2.out, t1.out]; rfl
  have HB0 : Hid (∀ o, Below w.heap.size w (w.alloc o)) := fun o => below_box w o
  clear hl hlc t1 t2
  go_enter Tryz.func30, Tryz.ntmps30
  go_wp2_with fail
  go_region
  go_wp2_with fail
  refine (decimal_any vl _ hv.1 hv.2).mono ?_
  rintro e w5 ⟨⟨D, rfl, hD⟩, b5⟩
  have B5 : Hid (Below w.heap.size w w5) := bl_tr (by repeat (first | exact Below.refl _ _ | apply Below.drew | refine Below.alloc ?_ (by simp) _)) b5
  have hDz := dec_text hv hD
  obtain ⟨A3, t3, z3, p3⟩ := cat ⟨#[32]⟩ D (by show 1 + D.size ≤ _; omega)
  have z3' : A3.size = 1 + D.size := z3
  obtain ⟨A4, t4, z4, p4⟩ := cat A2 A3 (by omega)
  have HT4 : Hid (A4.data.toList = ([91, 32] ++ opPre 1 ++ s.data.toList) ++ 32 :: decimal vl) := by show A4.data.toList = _; rw [t4.out, HT0.out, t3.out, hD]; rfl
  clear b5 hD t3 t4 z3
  obtain ⟨Z, tz, zz, pz⟩ := cat A4 ⟨#[32, 93]⟩ (by show A4.size + 2 ≤ _; omega)
  have zz' : Z.size = A4.size + 2 := zz
  clear zz
  go_wp2_with fail
  go_ret
  refine ⟨⟨Z, rfl, ?_, by omega⟩, B5.out⟩
  rw [tz.out, HT4.out]
  simp [refOp, refMid, MOp.kind, MOp.key, MOp.value, MOp.list, MOp.has, MOp.nl]
end Go.Proofs.YtfgbjghfkdmcjaaGreatDoor
namespace Go.Proofs.YtfgbjghfkdmcjaaGreatDoor
set_option linter.unusedVariables false
set_option linter.unusedSimpArgs false
open Go.RowKit

set_option maxHeartbeats 8000000 in
set_option maxRecDepth 100000 in
theorem refOp_2 (s : ByteArray) (vl : Int) (il : List Int) (hs nl : Bool) (lv : Value) (w : World) (hz : s.size ≤ 6) (hv : inI vl) (hvl : ∀ x ∈ il, inI x) (h40 : il.length ≤ 40) (hok : opOk (2, s, vl, il, hs, nl) = true) (hl : IntsIn Any w lv il) :
    Calls Tryz.prog 30 #[.agg #[.int .i64 2, .string s, .int .i64 vl, lv, .bool hs, .bool nl]] w fun e w' => (∃ r : ByteArray, e = .returned (.string r) ∧ r.data.toList = refOp (2, s, vl, il, hs, nl) ∧ r.size ≤ 2000) ∧ Below w.heap.size w w' := by
  obtain ⟨a1, cc1, rfl, hlb, hlc⟩ := id hl
  have HLC := hid hlc
  obtain ⟨A1, t1, z1, p1⟩ := cat ⟨#[91, 32]⟩ ⟨#[114, 101, 97, 100, 32]⟩ (by decide)
  have z1' : A1.size = 2 + 5 := z1
  clear z1
  obtain ⟨A2, t2, z2, p2⟩ := cat A1 s (by omega)
  have HT0 : Hid (A2.data.toList = [91, 32] ++ opPre 2 ++ s.data.toList) := by show A2.data.toList = _; rw [t2.out, t1.out]; rfl
  have HB0 : Hid (∀ o, Below w.heap.size w (w.alloc o)) := fun o => below_box w o
  clear hl hlc t1 t2
  go_enter Tryz.func30, Tryz.ntmps30
  go_wp2_with fail
  go_region
  cases hs with
  | false =>
    obtain ⟨Z, tz, zz, pz⟩ := cat A2 ⟨#[32, 93]⟩ (by show A2.size + 2 ≤ _; omega)
    have zz' : Z.size = A2.size + 2 := zz
    clear zz
    go_wp2_with fail
    go_ret
    refine ⟨⟨Z, rfl, ?_, by omega⟩, (by repeat (first | exact Below.refl _ _ | apply Below.drew | refine Below.alloc ?_ (by simp) _))⟩
    rw [tz.out, HT0.out]
    simp [refOp, refMid, MOp.kind, MOp.key, MOp.value, MOp.list, MOp.has, MOp.nl]
  | true =>
    obtain ⟨A3, t3, z3, p3⟩ := cat A2 ⟨#[32, 40]⟩ (by show A2.size + 2 ≤ _; omega)
    have z3' : A3.size = A2.size + 2 := z3
    have HT3 : Hid (A3.data.toList = ([91, 32] ++ opPre 2 ++ s.data.toList) ++ [32, 40]) := by show A3.data.toList = _; rw [t3.out, HT0.out]
    clear t3 z3
    go_wp2_with fail
    go_loopg [3, 67] il.length (fun g vs i wr => ∃ (k : Nat) (S : ByteArray), k ≤ il.length ∧ il.length - k ≤ g ∧ i = .int .i64 k ∧ vs = .string S ∧ S.size ≤ A3.size + k * 22 ∧ Aside (S.data.toList = (([91, 32] ++ opPre 2 ++ s.data.toList) ++ [32, 40]) ++ (il.take k).flatMap (fun v => 32 :: decimal v)) ∧ Aside (Below w.heap.size w wr))
    case atStart => exact ⟨0, A3, Nat.zero_le _, by omega, rfl, rfl, by omega, by rw [List.take_zero, List.flatMap_nil, List.append_nil]; exact HT3.out, (by repeat (first | exact Below.refl _ _ | apply Below.drew | refine Below.alloc ?_ (by simp) _))⟩
    case round =>
      obtain ⟨k, S, hk, hg, rfl, rfl, hSz, HS, BW⟩ := hrel
      by_cases hlt : k < il.length
      · have hlti : (k : Int) < (il.length : Int) := by omega
        obtain ⟨b1, o1, rfl, _, hcc⟩ := HLC.out (by omega)
        have hc0 := hcc k hlt
        have d0 : wr.cell? ⟨b1, o1 + k, none⟩ = some (.int .i64 (il.getD k default)) := (BW.out.cell (p := ⟨b1, o1 + k, none⟩) (World.block_lt_of_cell? _ _ hc0)).trans hc0
        have hxv := hvl _ (mem_at hlt)
        have HTK : Hid ((il.take (k + 1)).flatMap (fun v => 32 :: decimal v) = (il.take k).flatMap (fun v => 32 :: decimal v) ++ (32 :: decimal (il.getD k default))) := take_flat (fun v => 32 :: decimal v) hlt
        clear hcc hc0
        generalize il.getD k default = x at *
        go_wp2_with fail
        refine (decimal_any x _ hxv.1 hxv.2).mono ?_
        rintro e w5 ⟨⟨D, rfl, hD⟩, b5⟩
        have B5 : Hid (Below w.heap.size w w5) := bl_tr BW.out b5
        have hDz := dec_text hxv hD
        obtain ⟨A5, t5, z5, p5⟩ := cat ⟨#[32]⟩ D (by show 1 + D.size ≤ _; omega)
        have z5' : A5.size = 1 + D.size := z5
        obtain ⟨A6, t6, z6, p6⟩ := cat S A5 (by omega)
        have HT6 : Hid (A6.data.toList = (([91, 32] ++ opPre 2 ++ s.data.toList) ++ [32, 40]) ++ (il.take (k + 1)).flatMap (fun v => 32 :: decimal v)) := by show A6.data.toList = _; rw [t6.out, HS.out, t5.out, hD, HTK.out]; simp
        clear b5 hD t5 t6 z5 d0
        go_wp2_with fail
        go_roundg (il.length - (k + 1))
        case measure => omega
        case rel => exact ⟨k + 1, A6, by omega, by omega, by go_num, rfl, by omega, HT6.out, B5.out⟩
      · have hk' : k = il.length := by omega
        subst hk'
        rw [List.take_length] at HS
        obtain ⟨A7, t7, z7, p7⟩ := cat S ⟨#[32, 41]⟩ (by show S.size + 2 ≤ _; omega)
        have z7' : A7.size = S.size + 2 := z7
        have HT7 : Hid (A7.data.toList = (([91, 32] ++ opPre 2 ++ s.data.toList) ++ [32, 40]) ++ il.flatMap (fun v => 32 :: decimal v) ++ [32, 41]) := by show A7.data.toList = _; rw [t7.out, HS.out]
        clear t7 z7
        obtain ⟨Z, tz, zz, pz⟩ := cat A7 ⟨#[32, 93]⟩ (by show A7.size + 2 ≤ _; omega)
        have zz' : Z.size = A7.size + 2 := zz
        clear zz
        go_wp2_with fail
        go_ret
        refine ⟨⟨Z, rfl, ?_, by omega⟩, BW.out⟩
        rw [tz.out, HT7.out]
        simp [refOp, refMid, MOp.kind, MOp.key, MOp.value, MOp.list, MOp.has, MOp.nl]
end Go.Proofs.YtfgbjghfkdmcjaaGreatDoor
