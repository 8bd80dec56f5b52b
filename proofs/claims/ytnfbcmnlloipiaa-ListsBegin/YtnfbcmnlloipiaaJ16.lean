/-
  The document's trace of a list.
  Each read begins the trace; the walk of ListsBegin.
  From a reading of transactions as data to the transactions in memory.
-/
import Derived.Test.YtnfbcmnlloipiaaJ15
import Derived.Test.YtnfbcmnlloipiaaJ1
import Derived.Deep.Slices
import Derived.OpenShut
import Derived.SizedLaws
namespace Go.Proofs.Ytnfbcmnlloipiaa
set_option linter.unusedVariables false
set_option linter.unusedSimpArgs false
open Go.RowKit Go.Lib Go.Maps Go.Sort
open Tx (MTxn info_parts RowsIn.cells RowCells TxnRow TxnsIn)

set_option maxHeartbeats 2000000 in
set_option maxRecDepth 100000 in
theorem rtrace_un (w : World) (v : Value) (l : List MTxn) (s : ByteArray) (h : TxnsIn Any w v l) (hG : Good l) (hn : ¬ tellN l s) : Calls Try.prog 13 #[v, .string s] w fun e w' => e = .returned (.tuple #[.slice none 0 0, .bool false]) ∧ Below w.heap.size w w' := by
  have KI := hid (rkind_is w v l s h hG.len hG.ten)
  have UN : Hid (∀ W, Below w.heap.size w W → Calls Try.prog 36 #[v] W fun e w' => ∃ u : Bool, e = .returned (.bool u) ∧ (u = true ↔ uniqN (notes l l.length)) ∧ Below W.heap.size W w') := fun W hb => runiq_is W v l (h.below hb) hG.len hG.ten
  obtain ⟨a1, c1, rfl, _⟩ := RowsIn.cells h (by omega)
  unfold tellN at hn
  clear h hG
  generalize notes l l.length = N at *
  by_cases hk : kindN N s = 1
  · have hu : ¬ uniqN N := fun c => hn ⟨hk, c⟩
    rw [hk] at KI
    have HU := hid hu
    clear hn hk hu
    go_enter Try.func13, Try.ntmps13
    go_wp2_with (first | (go_at_call 35; refine KI.out.mono ?_; rintro e w1 ⟨rfl, b1⟩; have B1 := hid b1; clear b1) | (go_at_call 36; refine (UN.out _ B1.out).mono ?_; rintro e w2 ⟨u, rfl, hu2, b2⟩; have e9 : u = false := (by cases u with | false => rfl | true => exact absurd (hu2.1 rfl) HU.out); subst e9; have B2 := hid (B1.out.trans (b2.mono B1.out.size)); clear b2 hu2))
    go_ret2
    exact ⟨rfl, B2.out⟩
  · have hkb : (kindN N s == (1 : Int)) = false := by simpa using hk
    generalize kindN N s = kk at *
    clear hn UN
    go_enter Try.func13, Try.ntmps13
    go_wp2_with (go_at_call 35; refine KI.out.mono ?_; rintro e w1 ⟨rfl, b1⟩; have B1 := hid b1; clear b1)
    go_ret2
    exact ⟨rfl, B1.out⟩
theorem harm_at {A : List MAn} (h : ∀ j, j < A.length → (A.getD j default).1 = 6) : harmB A = true := by
  unfold harmB
  rw [List.all_eq_true]
  intro a ha
  obtain ⟨j, hj, e⟩ := List.mem_iff_getElem.1 ha
  have := h j hj
  rw [show A.getD j default = a from by simp [List.getD, List.getElem?_eq_getElem hj, e]] at this
  rw [this]
  rfl
theorem harm_not {A : List MAn} {j : Nat} (hj : j < A.length) (h : (A.getD j default).1 ≠ 6) : harmB A = false := by
  cases hc : harmB A with
  | false => rfl
  | true =>
    unfold harmB at hc
    rw [List.all_eq_true] at hc
    have := hc (A.getD j default) (by simp [List.getD, List.getElem?_eq_getElem hj])
    exact absurd (by simpa using this) h
theorem Try.infoI3 : (Try.prog.info? 3).map (fun i => (i.zero, i.size, i.bytes)) = some (some (.int .i64 0), 1, 8) := by kernel_rfl
theorem append_zero2 {P : Program} {w : World} (base : Nat) (t ty e : TypeId) (i : TypeInfo) (size : Nat) (ht : P.underlying t = some (.slice e)) (hi : P.info? e = some i) (v : Value) (a : Option Addr) (c n : Nat) (xs : List Value) (hown : w.ownsRow base e size v n xs) : (Builtin.append_ #[t, t] ty #[v, .slice a 0 c]).run P w = .ok v w := by
  rcases hown.2 with ⟨rfl, rfl⟩ | ⟨g, cap, cur, rfl, _, _, hnc, _⟩
  · cases a <;> simp [Builtin.append_, run_underlying ht, sizeOf, typeInfo, hi, Builtin.lenOf, Builtin.firstCells, loadCells, loadCellsFrom]
  · cases a <;> simp [Builtin.append_, run_underlying ht, sizeOf, typeInfo, hi, Builtin.lenOf, Builtin.firstCells, hnc, storeCells, loadCells, loadCellsFrom]
theorem ints_some {w : World} {a : Option Addr} {c : Nat} {xs : List Int} (h : IntsIn Any w (.slice a xs.length c) xs) (h0 : ¬ xs.length = 0) : ∃ lb lo, a = some ⟨lb, lo, none⟩ ∧ ∀ W, Below w.heap.size w W → ∀ j, j < xs.length → W.cell? ⟨lb, lo + j, none⟩ = some (.int .i64 (xs.getD j default)) := by
  obtain ⟨ao, c', hv, _, hc⟩ := h
  cases hv
  obtain ⟨b, off, rfl, _, h3⟩ := hc (by omega)
  exact ⟨b, off, rfl, fun W hb j hj => (hb.cell (p := ⟨b, off + j, none⟩) (World.block_lt_of_cell? _ _ (h3 j hj))).trans (h3 j hj)⟩
theorem ints_news {w : World} {lb lo : Nat} {xs : List Int} (h : ∀ j, j < xs.length → w.cell? ⟨lb, lo + j, none⟩ = some (.int .i64 (xs.getD j default))) : ∀ j u, (xs.map (Value.int .i64))[j]? = some u → w.cell? ((⟨lb, lo, none⟩ : Addr).add j) = some u := fun j u hu => by
  have hj : j < xs.length := by simpa using (List.getElem?_eq_some_iff.1 hu).1
  rw [Addr.add_lit, h j hj, ← hu]
  simp [List.getD, List.getElem?_eq_getElem hj]
theorem ints_one (xs : List Int) : ∀ u ∈ xs.map (Value.int .i64), u.oneCell' = true := by
  intro u hu
  obtain ⟨x, _, rfl⟩ := List.mem_map.1 hu
  rfl
theorem ints_owned {w : World} {B g cap : Nat} {xs : List Int} (h : w.ownsRow B 3 1 (.slice (some ⟨g, 0, none⟩) xs.length cap) xs.length (xs.map (Value.int .i64))) (hl : xs.length ≤ 1000000) : IntsIn Any w (.slice (some ⟨g, 0, none⟩) xs.length cap) xs := by
  have hc : xs.length ≤ cap := by
    rcases h.2 with ⟨hv, _⟩ | ⟨g', cap', cur, hv, _, _, hn, _⟩
    · cases hv
    · cases hv
      exact hn
  refine ⟨_, _, rfl, ⟨by omega, hc⟩, fun h0 => ⟨g, 0, rfl, trivial, fun j hj => ?_⟩⟩
  rw [Nat.zero_add, h.cellAt j (by omega)]
  simp [List.getD, List.getElem?_eq_getElem hj]
set_option maxHeartbeats 8000000 in
set_option maxRecDepth 100000 in
theorem rtrace_yes (w : World) (v : Value) (l : List MTxn) (s : ByteArray) (h : TxnsIn Any w v l) (hG : Good l) (hT : tellN l s) : Calls Try.prog 13 #[v, .string s] w fun e w' => ∃ v', e = .returned (.tuple #[v', .bool (harmB (anoN l s))]) ∧ (harmB (anoN l s) = true → IntsIn Any w' v' (knwN l s (notes l l.length)).ts) ∧ (harmB (anoN l s) = false → v' = .slice none 0 0) ∧ (∃ a n c, v' = .slice a n c) ∧ Below w.heap.size w w' := by
  obtain ⟨i0, hi0, hz0, hz1, hz2⟩ := info_parts Try.infoI3
  have HI0 := hid hi0
  have HZ0 := hid hz0
  have HZ1 := hid hz1
  have HZ2 := hid hz2
  have KI : Hid (Calls Try.prog 35 #[v, .string s] w fun e w' => e = .returned (.int .i64 1) ∧ Below w.heap.size w w') := by
    have q := rkind_is w v l s h hG.len hG.ten
    rw [hT.1] at q
    exact q
  have UN : Hid (∀ W, Below w.heap.size w W → Calls Try.prog 36 #[v] W fun e w' => e = .returned (.bool true) ∧ Below W.heap.size W w') := fun W hb => (runiq_is W v l (h.below hb) hG.len hG.ten).mono fun e w' q => by
    obtain ⟨u, rfl, h2, h3⟩ := q
    rw [h2.2 hT.2]
    exact ⟨rfl, h3⟩
  have AN : Hid (∀ W, Below w.heap.size w W → Calls Try.prog 16 #[v, .string s] W fun e w' => ∃ v', e = .returned v' ∧ w'.ownsRow W.heap.size 85 9 v' (anoN l s).length (ansC (anoN l s)) ∧ Below W.heap.size W w') := fun W hb => ranom_yes W v l s (h.below hb) hG hT
  have RD : Hid (∀ W, Below w.heap.size w W → Calls Try.prog 38 #[v, .string s] W fun e w' => ∃ v' R, e = .returned v' ∧ w'.ownsRow W.heap.size 87 3 v' R.length (rdC R) ∧ RdsD Any W R (rdsN l s (notes l l.length)) ∧ Below W.heap.size W w') := fun W hb => reads_is W v l s (h.below hb) hG
  have hal := anoN_len hG s
  have hrl := hG.rlen (s := s)
  have TSL : Hid ((knwN l s (notes l l.length)).ts.length ≤ 100000) := hG.trace.2
  have ETS : Hid ((longD (rdsN l s (notes l l.length))).2.2 = (knwN l s (notes l l.length)).ts) := knwD_ts l s
  obtain ⟨a1, c1, rfl, _⟩ := RowsIn.cells h (by omega)
  clear h hG hT hi0 hz0 hz1 hz2
  generalize (knwN l s (notes l l.length)).ts = ts at *
  generalize rdsN l s (notes l l.length) = RX at *
  generalize anoN l s = A at *
  obtain ⟨TR, hTR⟩ : ∃ TR, longD RX = TR := ⟨_, rfl⟩
  have LO : Hid (∀ B v R w0 W, W.ownsRow B 87 3 v R.length (rdC R) → RdsD Any w0 R RX → Calls Try.prog 37 #[v] W fun e w' => ∃ ta tc, e = .returned (.agg #[.int .i64 TR.1, .int .i64 TR.2.1, .slice ta TR.2.2.length tc]) ∧ IntsIn Any w0 (.slice ta TR.2.2.length tc) TR.2.2 ∧ Below W.heap.size W w') := fun B v R w0 W ho hr => (longest_is B v R RX w0 W ho hr (by rw [hr.len]; omega)).mono fun e w' q => by
    rw [hTR] at q
    obtain ⟨ta, tc, q1, q2, _, q4⟩ := q
    exact ⟨ta, tc, q1, q2, q4⟩
  rw [hTR] at ETS
  obtain ⟨ti, tj, ts2⟩ := TR
  obtain rfl : ts2 = ts := ETS.out
  simp only at LO
  clear hTR ETS
  have hali : (A.length : Int) ≤ 150000 := by omega
  go_enter Try.func13, Try.ntmps13
  go_wp2_with (first
    | (go_at_call 35; refine KI.out.mono ?_; rintro e w1 ⟨rfl, b1⟩; have B1 := hid b1; clear b1)
    | (go_at_call 36; refine (UN.out _ B1.out).mono ?_; rintro e w2 ⟨rfl, b2⟩; have B2 := hid (B1.out.trans (b2.mono B1.out.size)); clear b2)
    | (go_at_call 16; refine (AN.out _ B2.out).mono ?_; rintro e w3 ⟨v3, rfl, o3, b3⟩; have B3 := hid (B2.out.trans (b3.mono B2.out.size)); obtain ⟨ra, rc, hrv⟩ := own_slice o3; subst hrv; have O3 := hid o3; clear b3 o3))
  clear KI UN AN B1 B2
  go_loopg [7, 21] A.length (fun gg _ i wr => ∃ k : Nat, k ≤ A.length ∧ A.length - k ≤ gg ∧ i = .int .i64 k ∧ Aside (Below w3.heap.size w3 wr) ∧ Aside (∀ j, j < k → (A.getD j default).1 = 6))
  case atStart => exact ⟨0, Nat.zero_le _, by omega, rfl, Below.refl _ _, fun j hj => by omega⟩
  case round =>
    obtain ⟨k, hk, hgk, rfl, BR, NX⟩ := hrel
    have BW : Hid (Below w.heap.size w wr) := B3.out.trans (BR.out.mono B3.out.size)
    by_cases hlt : k < A.length
    · have hlti : (k : Int) < A.length := by omega
      obtain ⟨g, c', hv⟩ := own_some O3.out (by omega)
      cases hv
      have hgl : g < w3.heap.size := (own_block O3.out rfl).2.1
      have ce : ∀ i u, i < 9 → (anC (A.getD k default))[i]? = some u → wr.cell? ⟨g, k * 9 + i, none⟩ = some u := fun i u hi hu => (BR.out.cell (p := ⟨g, k * 9 + i, none⟩) hgl).trans ((O3.out.cellAt (k * 9 + i) (by omega)).trans ((ansC_at A k i hlt hi).trans hu))
      obtain ⟨a, ha⟩ : ∃ a, A.getD k default = a := ⟨_, rfl⟩
      rw [ha] at ce
      have HA := hid ha
      obtain ⟨q0, q1, q2, q3, q4, q5⟩ := a
      have x0 := ce 0 _ (by omega) rfl
      have x1 := ce 1 _ (by omega) rfl
      have x2 := ce 2 _ (by omega) rfl
      have x3 := ce 3 _ (by omega) rfl
      have x4 := ce 4 _ (by omega) rfl
      have x5 := ce 5 _ (by omega) rfl
      have x6 := ce 6 _ (by omega) rfl
      have x7 := ce 7 _ (by omega) rfl
      have x8 := ce 8 _ (by omega) rfl
      simp only [Nat.add_zero] at x0 x1 x2 x3 x4 x5 x6 x7 x8
      clear ce ha
      by_cases h6 : q0 = 6
      · subst h6
        go_wp2_with fail
        go_roundg (A.length - (k + 1))
        case measure => omega
        case rel => exact ⟨k + 1, by omega, by omega, by go_num, BR.out.trans ((below_box wr _).mono BR.out.size), (fun j hj => by by_cases e : j = k; (· rw [e, HA.out]); (· exact NX.out j (by omega)))⟩
      · have h6b : (q0 == (6 : Int)) = false := by simpa using h6
        have HB : Hid (harmB A = false) := harm_not hlt (by rw [HA.out]; exact h6)
        go_wp2_with fail
        go_ret2
        rw [HB.out]
        exact ⟨_, rfl, (fun c => by cases c), (fun _ => rfl), ⟨_, _, _, rfl⟩, BW.out.trans ((below_box wr _).mono BW.out.size)⟩
    · have hke : k = A.length := by omega
      have hlti : ¬ (k : Int) < A.length := by omega
      subst hke
      have HB : Hid (harmB A = true) := harm_at NX.out
      have BE : Hid (Below wr.heap.size wr (wr.alloc (.cells #[] 3))) := below_box wr _
      have OE : Hid ((wr.alloc (.cells #[] 3)).ownsRow w.heap.size 3 1 (.slice (some ⟨wr.heap.size, 0, none⟩) 0 0) 0 []) := ⟨rfl, .inr ⟨wr.heap.size, 0, #[], rfl, BW.out.size, heap_alloc_new wr _, Nat.le_refl _, by unfold maxLen; omega, rfl, rfl⟩⟩
      have BWE : Hid (Below w.heap.size w (wr.alloc (.cells #[] 3))) := BW.out.trans (BE.out.mono BW.out.size)
      have htl := TSL.out
      have FL : ∀ (W : World) (ta : Option Addr) (n tc : Nat), (Instr.field 87 (.agg #[.int .i64 (ti : Int), .int .i64 (tj : Int), .slice ta n tc]) 2).run Try.prog W = .ok (.slice ta n tc) W := fun W ta n tc => by kernel_rfl
      by_cases h0 : ts2.length = 0
      · have h0b : ts2 = [] := List.length_eq_zero_iff.1 h0
        subst h0b
        go_wp2_with (first
              | (go_at_call 38; refine (RD.out _ BWE.out).mono ?_; rintro e w5 ⟨v5, R, rfl, o5, r5, b5⟩; have O5 := hid o5; have R5 := hid r5; have B5 := hid b5; obtain ⟨ra5, rc5, hrv⟩ := own_slice o5; subst hrv; clear o5 r5 b5)
              | (go_at_call 37; refine (LO.out _ _ _ _ _ O5.out R5.out).mono ?_; rintro e w6 ⟨ta, tc, rfl, i6, b6⟩; have I6 := hid i6; have B56 : Hid (Below (wr.alloc (.cells #[] 3)).heap.size (wr.alloc (.cells #[] 3)) w6) := B5.out.trans (b6.mono B5.out.size); have OX : Hid (w6.ownsRow w.heap.size 3 1 (.slice (some ⟨wr.heap.size, 0, none⟩) 0 0) 0 []) := own_same OE.out (fun g hg => B56.out.block g (own_block OE.out hg).2.1); have B6w : Hid (Below w.heap.size w w6) := BWE.out.trans (B56.out.mono BWE.out.size); clear i6 b6 )
              | (at_builtin; refine Lib.wpList_append_run_sl _ rfl _ _ 28 rfl (.slice (some ⟨wr.heap.size, 0, none⟩) 0 0) _ rfl rfl (append_zero2 _ 28 _ 3 i0 1 Try.underlying28 HI0.out _ _ _ _ _ OX.out) ?_))
        go_ret2
        rw [HB.out]
        exact ⟨_, rfl, (fun _ => ⟨_, _, rfl, ⟨by simp, by simp⟩, fun c => by simp at c⟩), (fun c => by cases c), ⟨_, _, _, rfl⟩, B6w.out⟩
      · go_wp2_with (first
              | (go_at_call 38; refine (RD.out _ BWE.out).mono ?_; rintro e w5 ⟨v5, R, rfl, o5, r5, b5⟩; have O5 := hid o5; have R5 := hid r5; have B5 := hid b5; obtain ⟨ra5, rc5, hrv⟩ := own_slice o5; subst hrv; clear o5 r5 b5)
              | (go_at_call 37; refine (LO.out _ _ _ _ _ O5.out R5.out).mono ?_; rintro e w6 ⟨ta, tc, rfl, i6, b6⟩; have I6 := hid i6; have B56 : Hid (Below (wr.alloc (.cells #[] 3)).heap.size (wr.alloc (.cells #[] 3)) w6) := B5.out.trans (b6.mono B5.out.size); obtain ⟨lb, lo, hta, hcl⟩ := ints_some I6.out h0; subst hta; have HCL := hid hcl; clear hcl; have hw6 : w.heap.size ≤ w6.heap.size := (by have := B56.out.size; have := BWE.out.size; omega); have OX : Hid (w6.ownsRow w.heap.size 3 1 (.slice (some ⟨wr.heap.size, 0, none⟩) 0 0) 0 []) := own_same OE.out (fun g hg => B56.out.block g (own_block OE.out hg).2.1); have B6w : Hid (Below w.heap.size w w6) := BWE.out.trans (B56.out.mono BWE.out.size); clear i6 b6 )
              | (at_builtin; refine wpList_append_lies _ rfl _ _ 28 rfl w.heap.size 3 i0 _ 1 8 Try.underlying28 HI0.out HZ0.out HZ1.out HZ2.out rfl (by decide) (.slice (some ⟨wr.heap.size, 0, none⟩) 0 0) 0 [] rfl OX.out ⟨lb, lo, none⟩ ts2.length tc (ts2.map (Value.int .i64)) rfl (by simp) (ints_news (HCL.out w6 B56.out)) (ints_one ts2) (by omega) (by unfold maxLen; omega) (by omega) hw6 w6.heap.size rfl ?_; intro g9 cap9 w9 hown9 hgrow9 hat9 hglt9; have O9 := hid hown9; have G9 := hid hgrow9; clear hown9 hgrow9 hat9 hglt9))
        go_ret2
        rw [HB.out]
        refine ⟨_, rfl, (fun _ => ints_owned (by simpa using O9.out) (by omega)), (fun c => by cases c), ⟨_, _, _, rfl⟩, ?_⟩
        exact ⟨G9.out.os.trans B6w.out.os, G9.out.tape.trans B6w.out.tape, G9.out.output.trans B6w.out.output, Nat.le_trans B6w.out.size G9.out.size, fun b hb => (G9.out.block b (by have := B6w.out.size; omega) (fun e => by have := (own_block OX.out e.symm).1; omega)).trans (B6w.out.block b hb)⟩
end Go.Proofs.Ytnfbcmnlloipiaa
namespace Go.Proofs.Ytnfbcmnlloipiaa
set_option linter.unusedVariables false
set_option linter.unusedSimpArgs false
open Go.RowKit Go.Lib Go.Maps Go.Sort
open Tx (MTxn info_parts RowsIn.cells RowCells TxnRow TxnsIn smallL)

/-- Where the trace can be trusted each read begins it. -/
theorem begins_ok {l : List MTxn} {s : ByteArray} (h : okN l s) {r : MRx} (hr : r ∈ rdsN l s (notes l l.length)) : r.2.2.length ≤ (knwN l s (notes l l.length)).ts.length ∧ r.2.2 = (knwN l s (notes l l.length)).ts.take r.2.2.length := by
  refine ⟨long_max hr, ?_⟩
  by_cases c : r.2.2 = (knwN l s (notes l l.length)).ts.take r.2.2.length
  · exact c
  · exfalso
    have hf : findM (knwN l s (notes l l.length)) r.1 r.2.1 r.2.2 4 = some (4, ((knwN l s (notes l l.length)).ti : Int), 0) := if_neg c
    have hm : ((4 : Int), (r.1 : Int), (r.2.1 : Int), ((knwN l s (notes l l.length)).ti : Int), s, (0 : Int)) ∈ anoN l s := by
      unfold anoN anoM uptoA
      refine List.mem_append_left _ (List.mem_append_left _ (List.mem_flatMap.2 ⟨4, by simp, ?_⟩))
      unfold rowA
      refine List.mem_flatMap.2 ⟨r, hr, ?_⟩
      unfold oneA
      rw [hf]
      simp
    have := h.2
    unfold harmB at this
    rw [List.all_eq_true] at this
    exact absurd (this _ hm) (by simp)
/-- What Trace answers, both ways. -/
theorem trace_b (B tb : Nat) (l : List MTxn) (s : ByteArray) (w : World) (h : Made B w tb l) (hs : s.size ≤ maxLen) (hG : Good l) (b : Bool) (hb : b = true ↔ okN l s) : Calls Try.prog 12 #[.pointer (some ⟨tb, 0, none⟩), .string s] w fun e w' => ∃ ta tn tc, e = .returned (.tuple #[.slice ta tn tc, .bool b]) ∧ (b = true → tn = (knwN l s (notes l l.length)).ts.length ∧ IntsIn Any w' (.slice ta tn tc) (knwN l s (notes l l.length)).ts) ∧ Below w.heap.size w w' := by
  cases b with
  | true =>
    refine (trace_yes B tb l s w h hs hG (hb.1 rfl)).mono ?_
    rintro e w' ⟨ta, tc, rfl, hi, hw⟩
    exact ⟨ta, _, tc, rfl, fun _ => ⟨rfl, hi.keep (fun _ _ _ => rfl) (fun _ _ _ => trivial)⟩, hw⟩
  | false =>
    refine (trace_un _ s w (trusted_not B tb l s w h hs hG (fun c => by have := hb.2 c; cases this))).mono ?_
    rintro e w' ⟨rfl, hw⟩
    exact ⟨none, 0, 0, rfl, (fun c => by cases c), hw⟩
theorem rtrace_b (w : World) (v : Value) (l : List MTxn) (s : ByteArray) (h : TxnsIn Any w v l) (hG : Good l) (b : Bool) (hb : b = true ↔ okN l s) : Calls Try.prog 13 #[v, .string s] w fun e w' => ∃ a n c, e = .returned (.tuple #[.slice a n c, .bool b]) ∧ Below w.heap.size w w' := by
  by_cases hT : tellN l s
  · refine (rtrace_yes w v l s h hG hT).mono ?_
    rintro e w' ⟨v', rfl, _, _, ⟨a, n, c, rfl⟩, hw⟩
    have e : harmB (anoN l s) = b := by
      rw [Bool.eq_iff_iff, hb]
      exact ⟨fun c => ⟨hT, c⟩, fun c => c.2⟩
    rw [e]
    exact ⟨a, n, c, rfl, hw⟩
  · refine (rtrace_un w v l s h hG hT).mono ?_
    rintro e w' ⟨rfl, hw⟩
    have e : b = false := by
      cases b with
      | false => rfl
      | true => exact absurd (hb.1 rfl).1 hT
    subst e
    exact ⟨none, 0, 0, rfl, hw⟩
set_option maxHeartbeats 16000000 in
set_option maxRecDepth 100000 in
theorem lbegin_walk (tv : Value) (l0 : List MTxn) (w : World) (ht : TxnsIn Any w tv l0) (hok : ∀ t ∈ l0, ∀ o ∈ t.ops, OpOk o) (hwl : ∀ t ∈ l0, ∀ o ∈ t.ops, ∀ x ∈ o.list, (Lit.int .i64 x).wf = true) :
    Calls Try.prog 4 #[tv] w fun e w' => e = .returned (.bool true) ∧ Below w.heap.size w w' := by
  have HT := hid ht
  have hG0 := small_good hok hwl
  obtain ⟨L, hL⟩ : ∃ L, smallL l0 = L := ⟨_, rfl⟩
  have hlen : L.length ≤ 40 := by rw [← hL]; exact small_len l0
  rw [hL] at hG0
  have HG := hid hG0
  have HL := hid hL
  have hli : (L.length : Int) ≤ 40 := by omega
  clear ht hok hwl hL hG0
  go_enter Try.func4, Try.ntmps4
  go_upto_region 2 with (go_at_call 9; refine (Tx.small_any _ l0 _ HT.out).mono ?_; rintro e w1 ⟨v1, rfl, h1, b1⟩; rw [show smallL l0 = L from HL.out] at h1; have T1 : Hid (TxnsIn Any w1 v1 L) := txns_ins h1; have B1 := hid b1; clear h1 b1)
  obtain ⟨a1, c1, rfl, hc1⟩ := RowsIn.cells T1.out (by omega)
  obtain ⟨_, hrow⟩ := hc1
  have HC := hid hrow
  clear hrow
  go_wp2_with (first
    | (go_at_call 10; refine (tnew_is w1 _ L T1.out HG.out.len HG.out.ten HG.out.ok).mono ?_; rintro e w2 ⟨tb, rfl, hm2, b2⟩; have M2 := hid hm2; have B2 := hid b2; clear hm2 b2)
    | (go_at_call 11; refine (rkeys_is w2 _ L (T1.out.below B2.out) HG.out.len HG.out.ten).mono ?_; rintro e w10 ⟨kv, rfl, hsr, b10⟩; obtain ⟨ka, kc, hkv⟩ := own_slice hsr; subst hkv; have SR := hid hsr; have M10 : Hid (Made w1.heap.size w10 tb L) := M2.out.later b10; have B10 : Hid (Below w1.heap.size w1 w10) := B2.out.trans (b10.mono B2.out.size); clear hsr b10))
  clear M2 B2
  have hkl : (keysN (notes L L.length) []).length ≤ 10000 := Nat.le_trans (keys_len _) HG.out.nlen
  have CO : Hid (∀ W, Below w10.heap.size w10 W → Calls Try.prog 21 #[.pointer (some ⟨tb, 0, none⟩)] W fun e w' => e = .returned (.int .i64 (L.length : Int)) ∧ W = w') := fun W hb => count_is _ W tb L (M10.out.later hb)
  obtain ⟨KN, hKN⟩ : ∃ KN, (keysN (notes L L.length) []).length = KN := ⟨_, rfl⟩
  have KEY : Hid (∀ q, q < KN → ∃ gk s, ka = some ⟨gk, 0, none⟩ ∧ gk < w10.heap.size ∧ w10.cell? ⟨gk, q, none⟩ = some (.string s) ∧ s.size ≤ maxLen) := fun q hq => by
    obtain ⟨gk, c', hv⟩ := own_some SR.out (by omega)
    cases hv
    obtain ⟨s, h1, h2, _⟩ := key_at HG.out SR.out q (by omega)
    exact ⟨gk, s, rfl, World.block_lt_of_cell? _ _ h1, h1, h2⟩
  rw [hKN] at hkl
  rw [show (keysN (notes L L.length) []).length = KN from hKN]
  have hkli : (KN : Int) ≤ 10000 := by omega
  clear hKN SR
  go_loopg [5, 6, 7, 8, 9, 11, 13, 21] KN (fun gg _ _ _ _ _ _ _ i wr => ∃ k : Nat, k ≤ KN ∧ KN - k ≤ gg ∧ i = .int .i64 k ∧ Aside (Below w10.heap.size w10 wr))
  case atStart => exact ⟨0, Nat.zero_le _, by omega, rfl, Below.refl _ _⟩
  case round =>
    obtain ⟨k, hk, hgk, rfl, BR⟩ := hrel
    by_cases hlt : k < KN
    · have hlti : (k : Int) < KN := by omega
      obtain ⟨gk, s, rfl, hgl, hc, hss⟩ := KEY.out k hlt
      have cv := (BR.out.cell (p := ⟨gk, k, none⟩) hgl).trans hc
      have B1R : Hid (Below w1.heap.size w1 wr) := B10.out.trans (BR.out.mono B10.out.size)
      obtain ⟨b, hb⟩ : ∃ b : Bool, b = true ↔ okN L s := by
        by_cases c : okN L s
        · exact ⟨true, ⟨fun _ => c, fun _ => rfl⟩⟩
        · exact ⟨false, ⟨fun e => (by cases e), fun e => absurd e c⟩⟩
      have HB := hid hb
      have TR := hid (trace_b _ tb L s wr (M10.out.later BR.out) hss HG.out b hb)
      have RT : Hid (∀ W, Below w1.heap.size w1 W → Calls Try.prog 13 #[.slice a1 L.length c1, .string s] W fun e w' => ∃ a n c, e = .returned (.tuple #[.slice a n c, .bool b]) ∧ Below W.heap.size W w') := fun W hw => rtrace_b W _ L s (T1.out.below hw) HG.out b hb
      have hbb : (b != b) = false := by cases b <;> rfl
      clear hc hss hb
      go_wp2_with (first
        | (go_at_call 12; refine TR.out.mono ?_; rintro e w11 ⟨ta, tn, tc, rfl, htr, b11⟩; have HTR := hid htr; have B11 := hid (BR.out.trans (b11.mono BR.out.size)); have B11a := hid (B1R.out.trans (b11.mono B1R.out.size)); clear htr b11)
        | (go_at_call 13; refine (RT.out _ B11a.out).mono ?_; rintro e w12 ⟨da, dn, dc, rfl, b12⟩; have B12 := hid (B11.out.trans (b12.mono B11.out.size)); have B12a := hid (B11a.out.trans (b12.mono B11a.out.size)); have B1112 := hid b12; clear b12))
      have TRI : Hid (b = true → tn = (knwN L s (notes L L.length)).ts.length ∧ IntsIn Any w12 (.slice ta tn tc) (knwN L s (notes L L.length)).ts) := fun hb => ⟨(HTR.out hb).1, (HTR.out hb).2.below B1112.out⟩
      clear TR RT HTR B11 B11a B1112 cv BR B1R hbb
      go_loopg [11, 13, 42] L.length (fun gg _ _ i wr => ∃ n : Nat, n ≤ L.length ∧ L.length - n ≤ gg ∧ i = .int .i64 n ∧ Aside (Below w12.heap.size w12 wr))
      case atStart => exact ⟨0, Nat.zero_le _, by omega, rfl, Below.refl _ _⟩
      case round =>
        obtain ⟨n, hn, hgn, rfl, BN⟩ := hrel
        have B1N : Hid (Below w1.heap.size w1 wr) := B12a.out.trans (BN.out.mono B12a.out.size)
        by_cases hnl : n < L.length
        · have hnli : (n : Int) < L.length := by omega
          obtain ⟨xb, xo, cs, hxa, hbl, _, ⟨ov, hcs, hops⟩, hcell⟩ := HC.out n hnl
          subst hxa
          subst hcs
          obtain ⟨oa, oc, hov, hol, hoc⟩ := id hops
          subst hov
          have hmem : L.getD n default ∈ L := getD_mem L n hnl
          have d0 := (B1N.out.cell (p := ⟨xb, xo + n * 5 + 0, none⟩) hbl).trans (hcell 0 _ rfl)
          have d1 := (B1N.out.cell (p := ⟨xb, xo + n * 5 + 1, none⟩) hbl).trans (hcell 1 _ rfl)
          have d2 := (B1N.out.cell (p := ⟨xb, xo + n * 5 + 2, none⟩) hbl).trans (hcell 2 _ rfl)
          have d3 := (B1N.out.cell (p := ⟨xb, xo + n * 5 + 3, none⟩) hbl).trans (hcell 3 _ rfl)
          have d4 := (B1N.out.cell (p := ⟨xb, xo + n * 5 + 4, none⟩) hbl).trans (hcell 4 _ rfl)
          rw [Nat.add_zero] at d0
          have hten : (L.getD n default).ops.length ≤ 10 := HG.out.ten _ hmem
          have HOC := hid hoc
          obtain ⟨st, hst⟩ : ∃ st, (L.getD n default).state = st := ⟨_, rfl⟩
          have HST := hid hst
          rw [hst] at d1
          obtain ⟨T, hT⟩ : ∃ T, (L.getD n default).ops = T := ⟨_, rfl⟩
          have HTT := hid hT
          rw [hT] at d4 hten HOC
          generalize (L.getD n default).proc = xp at d0
          generalize (L.getD n default).since = xf at d2
          generalize (L.getD n default).till = xt at d3
          have hTi : (T.length : Int) ≤ 10 := by omega
          clear hcell hops hoc hmem hT hst
          go_wp2_with fail
          have X3 : Hid ((wr.alloc (.cells #[.int .i64 xp, .int .i64 st, .int .i64 xf, .int .i64 xt, .slice oa T.length oc] 47)).cell? ⟨wr.heap.size, 1, none⟩ = some (.int .i64 st)) := new_cells wr _ 47 1
          have B3 : Hid (Below w12.heap.size w12 (wr.alloc (.cells #[.int .i64 xp, .int .i64 st, .int .i64 xf, .int .i64 xt, .slice oa T.length oc] 47))) := BN.out.trans ((below_box wr _).mono BN.out.size)
          clear d0 d1 d2 d3 d4 BN B1N
          generalize wr.alloc (.cells #[.int .i64 xp, .int .i64 st, .int .i64 xf, .int .i64 xt, .slice oa T.length oc] 47) = W3 at *
          generalize wr.heap.size = pb at *
          go_loopg [13, 49] T.length (fun gg _ i wi => ∃ j : Nat, j ≤ T.length ∧ T.length - j ≤ gg ∧ i = .int .i64 j ∧ Aside (Below W3.heap.size W3 wi))
          case atStart => exact ⟨0, Nat.zero_le _, by omega, rfl, Below.refl _ _⟩
          case round =>
            obtain ⟨j, hj, hgj, rfl, BJ⟩ := hrel
            have B12J : Hid (Below w12.heap.size w12 wr) := B3.out.trans (BJ.out.mono B3.out.size)
            have B1J : Hid (Below w1.heap.size w1 wr) := B12a.out.trans (B12J.out.mono B12a.out.size)
            by_cases hjl : j < T.length
            · have hjli : (j : Int) < T.length := by omega
              obtain ⟨ob, oo, rfl, _, hcs⟩ := HOC.out (by omega)
              obtain ⟨cs, _, ⟨lv, hcse, hli2⟩, hcell⟩ := hcs j hjl
              subst hcse
              obtain ⟨la, lc, rfl, _⟩ := id hli2
              have hobl := World.block_lt_of_cell? _ _ (hcell 0 _ rfl)
              have x0 := (B1J.out.cell (p := ⟨ob, oo + j * 6 + 0, none⟩) hobl).trans (hcell 0 _ rfl)
              have x1 := (B1J.out.cell (p := ⟨ob, oo + j * 6 + 1, none⟩) hobl).trans (hcell 1 _ rfl)
              have x2 := (B1J.out.cell (p := ⟨ob, oo + j * 6 + 2, none⟩) hobl).trans (hcell 2 _ rfl)
              have x3 := (B1J.out.cell (p := ⟨ob, oo + j * 6 + 3, none⟩) hobl).trans (hcell 3 _ rfl)
              have x4 := (B1J.out.cell (p := ⟨ob, oo + j * 6 + 4, none⟩) hobl).trans (hcell 4 _ rfl)
              have x5 := (B1J.out.cell (p := ⟨ob, oo + j * 6 + 5, none⟩) hobl).trans (hcell 5 _ rfl)
              rw [Nat.add_zero] at x0
              have cst : wr.cell? ⟨pb, 1, none⟩ = some (.int .i64 st) := (BJ.out.cell (p := ⟨pb, 1, none⟩) (World.block_lt_of_cell? _ _ X3.out)).trans X3.out
              have xa : ∀ o, (wr.alloc o).cell? ⟨pb, 1, none⟩ = some (.int .i64 st) := fun o => Lib.cell?_alloc_some _ cst
              have hpl : pb < wr.heap.size := World.block_lt_of_cell? _ _ cst
              have hne : ¬ (pb = wr.heap.size) := by omega
              have BGN : Hid (b = true → isRd s st (T.getD j default) = true → (T.getD j default).list.length ≤ 100000 → ∀ o, Calls Try.prog 22 #[.slice la (T.getD j default).list.length lc, .slice ta tn tc] (wr.alloc o) fun e w' => e = .returned (.bool true) ∧ Below (wr.alloc o).heap.size (wr.alloc o) w') := fun hb hrd hol o => by
                obtain ⟨e1, e2⟩ := TRI.out hb
                have hmr : (n, j, (T.getD j default).list) ∈ rdsN L s (notes L L.length) := by
                  have hm := notes_mem L n j (by rw [HTT.out]; exact hjl) L.length hnl
                  rw [HTT.out] at hm
                  unfold rdsN
                  refine List.mem_map.2 ⟨_, List.mem_filter.2 ⟨hm, ?_⟩, rfl⟩
                  show isRd s (L.getD n default).state (T.getD j default) = true
                  rw [HST.out]
                  exact hrd
                obtain ⟨f1, f2⟩ := begins_ok (HB.out.1 hb) hmr
                have BA : Below w12.heap.size w12 (wr.alloc o) := B12J.out.trans ((below_box wr o).mono B12J.out.size)
                have BA1 : Below w1.heap.size w1 (wr.alloc o) := B1J.out.trans ((below_box wr o).mono B1J.out.size)
                rw [e1] at e2 ⊢
                have q := begins_is la ta lc tc _ _ (wr.alloc o) (hli2.below BA1) (e2.below BA) hol HG.out.trace.2
                rw [decide_eq_true ⟨f1, f2⟩] at q
                exact q
              have hol : (T.getD j default).list.length ≤ 100000 := by
                have := HG.out.sz _ (getD_mem L n hnl) (T.getD j default) (by rw [HTT.out]; exact getD_mem T j hjl)
                exact this
              have HOLL := hid hol
              clear hcell hcs hli2 hol
              generalize T.getD j default = O at *
              obtain ⟨ok, os, ov, ol, oh, on⟩ := O
              simp only [MOp.kind, MOp.key, MOp.value, MOp.list, MOp.has, MOp.nl] at x0 x1 x2 x3 x4 x5 BGN HOLL
              have BNX : ∀ o, Hid (Below W3.heap.size W3 (wr.alloc o)) := fun o => BJ.out.trans ((below_box wr o).mono BJ.out.size)
              cases b with
              | false =>
                clear BGN
                go_wp2_with fail
                go_roundg (T.length - (j + 1))
                case measure => omega
                case rel => exact ⟨j + 1, by omega, by omega, by go_num, (BNX _).out⟩
              | true =>
                by_cases h1 : st = 1
                · subst h1
                  by_cases h2 : ok = 2
                  · subst h2
                    cases oh with
                    | false =>
                      clear BGN
                      go_wp2_with fail
                      go_roundg (T.length - (j + 1))
                      case measure => omega
                      case rel => exact ⟨j + 1, by omega, by omega, by go_num, (BNX _).out⟩
                    | true =>
                      by_cases hks : os = s
                      · subst os
                        have hkb : (s.toList == s.toList) = true := by simp
                        have BG := hid (BGN.out rfl (by simp [isRd, MOp.key, MOp.kind, MOp.has]) HOLL.out)
                        clear BGN
                        go_wp2_with (go_at_call 22; refine (BG.out _).mono ?_; rintro e w6 ⟨rfl, b6⟩; have B6 := hid b6; clear b6)
                        go_roundg (T.length - (j + 1))
                        case measure => omega
                        case rel => exact ⟨j + 1, by omega, by omega, by go_num, (BNX _).out.trans (B6.out.mono (BNX _).out.size)⟩
                      · have hkb : (os.toList == s.toList) = false := by
                          cases hc : (os.toList == s.toList) with
                          | false => rfl
                          | true => exact absurd (cond_ws ▸ hc) hks
                        clear BGN
                        go_wp2_with fail
                        go_roundg (T.length - (j + 1))
                        case measure => omega
                        case rel => exact ⟨j + 1, by omega, by omega, by go_num, (BNX _).out⟩
                  · have h2b : (ok == (2 : Int)) = false := by simpa using h2
                    clear BGN
                    go_wp2_with fail
                    go_roundg (T.length - (j + 1))
                    case measure => omega
                    case rel => exact ⟨j + 1, by omega, by omega, by go_num, (BNX _).out⟩
                · have h1b : (st == (1 : Int)) = false := by simpa using h1
                  clear BGN
                  go_wp2_with fail
                  go_roundg (T.length - (j + 1))
                  case measure => omega
                  case rel => exact ⟨j + 1, by omega, by omega, by go_num, (BNX _).out⟩
            · have hje : j = T.length := by omega
              have hjli : ¬ (j : Int) < T.length := by omega
              go_wp2_with fail
              go_roundg (L.length - (n + 1))
              case measure => omega
              case rel => exact ⟨n + 1, by omega, by omega, by go_num, B12J.out⟩
        · have hne : n = L.length := by omega
          have hnli : ¬ (n : Int) < L.length := by omega
          go_wp2_with fail
          go_roundg (KN - (k + 1))
          case measure => omega
          case rel => exact ⟨k + 1, by omega, by omega, by go_num, B12.out.trans (BN.out.mono B12.out.size)⟩
    · have hke : k = KN := by omega
      have hlti : ¬ (k : Int) < KN := by omega
      have hce : ((L.length : Int) == (L.length : Int)) = true := by simp
      go_wp2_with (go_at_call 21; refine (CO.out _ BR.out).mono ?_; rintro e w11 ⟨rfl, rfl⟩)
      go_ret
      have B10w : Below w.heap.size w w10 := B1.out.trans (B10.out.mono B1.out.size)
      exact ⟨rfl, B10w.trans (BR.out.mono B10w.size)⟩
end Go.Proofs.Ytnfbcmnlloipiaa
namespace Go.Proofs.Ytnfbcmnlloipiaa.Tx
set_option linter.unusedVariables false
set_option linter.unusedSimpArgs false
open Go.RowKit Go.ChangeShapes Go.WideShapes

theorem Try.cells4 : Try.prog.cellsOf 4 = 1 := by kernel_rfl
theorem Try.cells28 : Try.prog.cellsOf 28 = 1 := by kernel_rfl
theorem Try.cells49 : Try.prog.cellsOf 49 = 6 := by kernel_rfl
theorem Try.cells3 : Try.prog.cellsOf 3 = 1 := by kernel_rfl
theorem Try.cells9 : Try.prog.cellsOf 9 = 1 := by kernel_rfl
theorem Try.cells45 : Try.prog.cellsOf 45 = 1 := by kernel_rfl
theorem Try.cells47 : Try.prog.cellsOf 47 = 5 := by kernel_rfl
theorem Try.bytes47 : Try.prog.bytesOf 47 = 56 := by kernel_rfl
theorem Try.bytes3 : Try.prog.bytesOf 3 = 8 := by kernel_rfl
theorem Try.bytes49 : Try.prog.bytesOf 49 = 64 := by kernel_rfl

section
variable {H : Type} {enc : TypeId × Value → H} {P : Program} {w : World} {base : Nat} {spare : Nat → Bool} {held : Bool}

theorem weightsAll_mem {e : TypeId} {n : Nat} {d : DataW H} : ∀ {ds : List (DataW H)}, d ∈ ds → n ∈ d.weights P e → n ∈ DataW.weightsAll P e ds
  | [], hd, _ => by simp at hd
  | x :: ds, hd, hn => by
    simp only [DataW.weightsAll, List.mem_append]
    rcases List.mem_cons.1 hd with rfl | hd
    · exact Or.inl hn
    · exact Or.inr (weightsAll_mem hd hn)

/-- A slice of elements of k cells, each of which can be read. -/
theorem rows_of_trod {α : Type} [Inhabited α] {t e : TypeId} {k bytes fuel : Nat} {R : List Value → α → Prop} {cs : List Value} {x : DataW H × List MemPlace}
    (ht : P.underlying t = some (.slice e)) (hk : P.cellsOf e = k) (hk0 : 0 < k) (hby : P.bytesOf e = bytes)
    (h : DataW.trod enc P w base spare held fuel t cs = some x) (hw : ∀ n ∈ x.1.weights P t, n ≤ reachBytes)
    (he : ∀ (n : Nat) (cs' : List Value) (y : DataW H × List MemPlace), cs'.length = k → DataW.trod enc P w base spare held n e cs' = some y → (∀ n ∈ y.1.weights P e, n ≤ reachBytes) → ∃ a : α, R cs' a) :
    ∃ v l, cs = [v] ∧ RowsIn k bytes R Any w v l := by
  rcases Deep.open_slice ht h with ⟨rfl, rfl⟩ | ⟨a, len, cap, m, n, D, Pl, rfl, hb, hl, hm, hmm, rfl, hx⟩
  · exact ⟨_, [], rfl, none, 0, rfl, ⟨by simp, Nat.le_refl _⟩, fun h => by simp at h⟩
  · have hlm : len ≤ m := by rw [hmm]; split <;> omega
    rw [hk] at hx
    have key : ∀ i, i < len → ∃ q : α × List Value, q.2.length = k ∧ R q.2 q.1 ∧ ∀ j, j < k → w.cell? (a.add (i * k + j)) = q.2[j]? := fun i hi => by
      obtain ⟨cs', h1, h2⟩ := hx i (by omega)
      obtain ⟨_, hlen, hc⟩ := World.cells?_some h1
      obtain ⟨y, hy⟩ := he n cs' _ hlen h2 (fun q hq => hw q (by
        simp only [DataW.weights, ht, List.mem_cons, List.mem_append]
        exact Or.inr (Or.inl (weightsAll_mem (d := D i) (by simp; exact ⟨i, hi, rfl⟩) hq))))
      exact ⟨(y, cs'), hlen, hy, fun j hj => by rw [← Deep.add_add]; exact hc j hj⟩
    obtain ⟨f, hf⟩ := Deep.choose_lt (α := α × List Value) key
    refine ⟨_, (List.range len).map (fun i => (f i).1), rfl, some a, cap, by simp, ⟨?_, by simpa using hl⟩, fun h0 => ?_⟩
    · have := hw ((len + (m - len)) * P.bytesOf e) (by simp [DataW.weights, ht])
      rw [hby] at this
      simp only [List.length_map, List.length_range]
      have h2 : len * bytes ≤ (len + (m - len)) * bytes := Nat.mul_le_mul_right _ (by omega)
      have h3 : reachBytes ≤ 140737488355328 := by decide
      omega
    · simp only [List.length_map, List.length_range] at h0
      obtain ⟨b, off, spot⟩ := a
      have hspot : spot = none := by
        obtain ⟨h1, _, h3⟩ := hf 0 h0
        have := h3 0 hk0
        rw [List.getElem?_eq_getElem (by omega)] at this
        simpa [Addr.add] using World.cell?_spot this
      subst hspot
      refine ⟨b, off, rfl, trivial, fun j hj => ?_⟩
      simp only [List.length_map, List.length_range] at hj
      obtain ⟨h1, h2, h3⟩ := hf j hj
      refine ⟨(f j).2, h1, ?_, fun i u hi => ?_⟩
      · simpa [List.getD, hj] using h2
      · have hik : i < k := by rw [← h1]; exact (List.getElem?_eq_some_iff.1 hi).1
        have := h3 i hik
        rw [Addr.add_lit, hi] at this
        simpa [Nat.add_assoc] using this
end

/-- What holds of each row's element holds of each element. -/
theorem rows_all {α : Type} [Inhabited α] {k bytes : Nat} {R : List Value → α → Prop} {C : α → Prop} {S : Nat → Prop} {w : World} {v : Value} {l : List α} (h : RowsIn k bytes (fun cs a => R cs a ∧ C a) S w v l) : RowsIn k bytes R S w v l ∧ ∀ a ∈ l, C a := by
  obtain ⟨ao, c, hv, hl, hc⟩ := h
  refine ⟨⟨ao, c, hv, hl, fun h0 => ?_⟩, fun a ha => ?_⟩
  · obtain ⟨b, off, e1, e2, hj⟩ := hc h0
    refine ⟨b, off, e1, e2, fun j hlt => ?_⟩
    obtain ⟨cs, q1, q2, q3⟩ := hj j hlt
    exact ⟨cs, q1, q2.1, q3⟩
  · obtain ⟨j, hj, e⟩ := List.mem_iff_getElem.1 ha
    obtain ⟨b, off, _, _, hcc⟩ := hc (by omega)
    obtain ⟨cs, _, q2, _⟩ := hcc j hj
    have : l.getD j default = a := by simp [List.getD, List.getElem?_eq_getElem hj, e]
    rw [this] at q2
    exact q2.2


/-- An operation that a machine can hold. -/
def OpFit (o : MOp) : Prop := o.key.size ≤ 281474976710656 ∧ o.list.length * 8 ≤ 140737488355328 ∧ (Lit.int .i64 o.value).wf = true ∧ ∀ x ∈ o.list, (Lit.int .i64 x).wf = true

section
variable {H : Type} {enc : TypeId × Value → H} {w : World} {base : Nat} {spare : Nat → Bool} {held : Bool}

/-- A list of ints. -/
theorem ints_of_trod {fuel : Nat} {cs : List Value} {x : DataW H × List MemPlace} (h : DataW.trod enc Try.prog w base spare held fuel 28 cs = some x) (hw : ∀ n ∈ x.1.weights Try.prog 28, n ≤ reachBytes) :
    ∃ v l, cs = [v] ∧ IntsIn Any w v l ∧ ∀ x ∈ l, (Lit.int .i64 x).wf = true := by
  obtain ⟨v, l, hv, hr⟩ := rows_of_trod (R := fun cs (a : Int) => cs = [.int .i64 a] ∧ (Lit.int .i64 a).wf = true) (k := 1) (bytes := 8) Try.underlying28 Try.cells3 (by omega) Try.bytes3 h hw (fun n cs' y hlen hy _ => by
    obtain ⟨z, hz, _, hz2⟩ := DataW.trod_int Try.underlying3 hy
    exact ⟨z, hz, hz2⟩)
  obtain ⟨hr, hwf⟩ := rows_all hr
  obtain ⟨ao, c, hvv, hl, hc⟩ := hr
  refine ⟨v, l, hv, ⟨ao, c, hvv, hl, fun h0 => ?_⟩, hwf⟩
  obtain ⟨b, off, ha, _, hj⟩ := hc h0
  refine ⟨b, off, ha, trivial, fun j hlt => ?_⟩
  obtain ⟨cs', _, hcs, hcc⟩ := hj j hlt
  have := hcc 0 (.int .i64 (l.getD j default)) (by rw [hcs]; rfl)
  simpa using this

set_option maxRecDepth 10000 in
/-- An operation's six cells. -/
theorem op_of_trod (n : Nat) (cs : List Value) (y : DataW H × List MemPlace) (hlen : cs.length = 6) (h : DataW.trod enc Try.prog w base spare held n 49 cs = some y) (hw : ∀ n ∈ y.1.weights Try.prog 49, n ≤ reachBytes) :
    ∃ a : MOp, OpRow Any w cs a ∧ OpFit a := by
  obtain ⟨xs, m, rfl, rfl, _, hxl, hf⟩ := DataW.trod_struct Try.underlying49 h
  match cs, hlen with
  | [c0, c1, c2, c3, c4, c5], _ =>
    match xs, hxl with
    | [x0, x1, x2, x3, x4, x5], _ =>
      have f0 := hf 0 _ rfl
      have f1 := hf 1 _ rfl
      have f2 := hf 2 _ rfl
      have f3 := hf 3 _ rfl
      have f4 := hf 4 _ rfl
      have f5 := hf 5 _ rfl
      simp [Try.cells3, Try.cells4, Try.cells9, Try.cells28] at f0 f1 f2 f3 f4 f5
      obtain ⟨k, e0, _⟩ := DataW.trod_int Try.underlying3 f0
      obtain ⟨s, e1, g1, _⟩ := DataW.trod_string Try.underlying9 f1
      obtain ⟨v, e2, _, wv⟩ := DataW.trod_int Try.underlying3 f2
      obtain ⟨lv, l, e3, hl, hlw⟩ := ints_of_trod f3 (fun n hn => hw n (by
        simp only [DataW.weights, Try.underlying49]
        exact DataW.weights_mem_each (j := 3) rfl rfl n hn))
      have hks : s.size ≤ reachBytes := by
        have := hw s.data.toList.length (by
          simp only [DataW.weights, Try.underlying49]
          exact DataW.weights_mem_each (j := 1) rfl rfl _ (by rw [g1]; simp [DataW.weights, Try.underlying9]))
        rw [Array.length_toList] at this
        exact this
      obtain ⟨p, e4, _⟩ := DataW.trod_bool Try.underlying4 f4
      obtain ⟨q, e5, _⟩ := DataW.trod_bool Try.underlying4 f5
      simp at e0 e1 e2 e3 e4 e5
      subst e0 e1 e2 e3 e4 e5
      have hll : l.length * 8 ≤ 140737488355328 := by obtain ⟨_, _, _, h, _⟩ := hl; exact h.1
      exact ⟨⟨k, s, v, l, p, q⟩, ⟨c3, rfl, hl⟩, Nat.le_trans hks (by decide), hll, wv, hlw⟩

/-- Operations. -/
theorem ops_of_trod {fuel : Nat} {cs : List Value} {x : DataW H × List MemPlace} (h : DataW.trod enc Try.prog w base spare held fuel 45 cs = some x) (hw : ∀ n ∈ x.1.weights Try.prog 45, n ≤ reachBytes) :
    ∃ v l, cs = [v] ∧ OpsIn Any w v l ∧ ∀ o ∈ l, OpFit o := by
  obtain ⟨v, l, hv, hr⟩ := rows_of_trod (R := fun cs a => OpRow Any w cs a ∧ OpFit a) (k := 6) (bytes := 64) Try.underlying45 Try.cells49 (by omega) Try.bytes49 h hw op_of_trod
  obtain ⟨h1, h2⟩ := rows_all hr
  exact ⟨v, l, hv, h1, h2⟩

set_option maxRecDepth 10000 in
/-- A transaction's five cells. -/
theorem txn_of_trod (n : Nat) (cs : List Value) (y : DataW H × List MemPlace) (hlen : cs.length = 5) (h : DataW.trod enc Try.prog w base spare held n 47 cs = some y) (hw : ∀ n ∈ y.1.weights Try.prog 47, n ≤ reachBytes) :
    ∃ a : MTxn, TxnRow Any w cs a ∧ ∀ o ∈ a.ops, OpFit o := by
  obtain ⟨xs, m, rfl, rfl, _, hxl, hf⟩ := DataW.trod_struct Try.underlying47 h
  match cs, hlen with
  | [c0, c1, c2, c3, c4], _ =>
    match xs, hxl with
    | [x0, x1, x2, x3, x4], _ =>
      have f0 := hf 0 _ rfl
      have f1 := hf 1 _ rfl
      have f2 := hf 2 _ rfl
      have f3 := hf 3 _ rfl
      have f4 := hf 4 _ rfl
      simp [Try.cells3, Try.cells45] at f0 f1 f2 f3 f4
      obtain ⟨k, e0, _⟩ := DataW.trod_int Try.underlying3 f0
      obtain ⟨s, e1, _⟩ := DataW.trod_int Try.underlying3 f1
      obtain ⟨v, e2, _⟩ := DataW.trod_int Try.underlying3 f2
      obtain ⟨q, e3, _⟩ := DataW.trod_int Try.underlying3 f3
      obtain ⟨lv, l, e4, hl, hfit⟩ := ops_of_trod f4 (fun n hn => hw n (by
        simp only [DataW.weights, Try.underlying47]
        exact DataW.weights_mem_each (j := 4) rfl rfl n hn))
      simp at e0 e1 e2 e3 e4
      subst e0 e1 e2 e3 e4
      exact ⟨⟨k, s, v, q, l⟩, ⟨c4, rfl, hl⟩, hfit⟩

/-- Transactions. -/
theorem txns_of_trod {fuel : Nat} {cs : List Value} {x : DataW H × List MemPlace} (h : DataW.trod enc Try.prog w base spare held fuel 22 cs = some x) (hw : ∀ n ∈ x.1.weights Try.prog 22, n ≤ reachBytes) :
    ∃ v l, cs = [v] ∧ TxnsIn Any w v l ∧ ∀ t ∈ l, ∀ o ∈ t.ops, OpFit o := by
  obtain ⟨v, l, hv, hr⟩ := rows_of_trod (R := fun cs a => TxnRow Any w cs a ∧ ∀ o ∈ a.ops, OpFit o) (k := 5) (bytes := 56) Try.underlying22 Try.cells47 (by omega) Try.bytes47 h hw txn_of_trod
  obtain ⟨h1, h2⟩ := rows_all hr
  exact ⟨v, l, hv, h1, h2⟩
end
end Go.Proofs.Ytnfbcmnlloipiaa.Tx
