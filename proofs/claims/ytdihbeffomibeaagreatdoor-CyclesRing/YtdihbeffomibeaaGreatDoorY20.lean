/-
  cycles.Find: the first cycle of a class.
-/
import Derived.Test.YtdihbeffomibeaaGreatDoorY18
import Derived.Test.YtdihbeffomibeaaGreatDoorYF4
import Derived.Test.YtdihbeffomibeaaGreatDoorY19
import Derived.Laws.AppendOwnNone
namespace Go.Proofs.YtdihbeffomibeaaGreatDoor
set_option linter.unusedVariables false
set_option linter.unusedSimpArgs false
open Go.RowKit Go.Lib

theorem glabels_ok (b n r f : Nat) (bk ck : Nat → Nat) (L : Nat → Nat → Nat) (t : Nat) (w : World) (h : Graph w b n r bk ck L) (hf : f < n) :
    Calls Tryz.prog 22 #[.pointer (some ⟨b, 0, none⟩), .int .i64 f, .int .i64 t] w fun e w' => e = .returned (.int .i64 (L f t)) ∧ w = w' := by
  have H1 := hid (ghas_ok b n f w h.c0 h.c1 hf)
  have H2 := hid (row_is b n r f w h.c2 hf h.bound)
  have H3 := hid (labelsIn_at b n r f bk ck L t w h hf)
  have e : labAt L f t = L f t := by simp [labAt]
  rw [e] at H3
  clear h e
  generalize L f t = x at *
  go_enter Tryz.func22, Tryz.ntmps22
  go_wp2_with fail
  refine H1.out.mono ?_
  rintro e w' ⟨rfl, rfl⟩
  go_wp2_with fail
  refine H2.out.mono ?_
  rintro e w' ⟨rfl, rfl⟩
  go_wp2_with fail
  refine H3.out.mono ?_
  rintro e w' ⟨rfl, rfl⟩
  go_wp2_with fail
  go_ret
  exact ⟨rfl, rfl⟩
theorem Tryz.mixedOrders : Tryz.prog.follows .mixedOrders = true := by kernel_rfl
theorem nat_getD (l : List Nat) (i : Nat) (h : i < l.length) : (l.map fun z : Nat => (z : Int)).getD i 0 = ((l.getD i 0 : Nat) : Int) := by simp [List.getD, h]
theorem lw_one {w : World} {p : Nat} {x : MW} (h : Bw w p x) : Lw w (some ⟨p, 0, none⟩) 1 (fun _ => x) := fun j hj => ⟨p, 0, rfl, h.1, fun i u hi => by
  obtain rfl : j = 0 := by omega
  simpa using h.2.2 i u hi⟩
theorem rowsW_snoc (G : Nat → MW) (x : MW) (k : Nat) : (rowsW G k).flatten ++ (rowsW (fun _ => x) 1).flatten = (rowsW (fun i => if i < k then G i else x) (k + 1)).flatten := by
  have e : rowsW (fun i => if i < k then G i else x) (k + 1) = rowsW G k ++ rowsW (fun _ => x) 1 := by
    unfold rowsW
    rw [List.range_succ, List.map_append]
    congr 1
    · apply List.map_congr_left
      intro i hi
      have : i < k := List.mem_range.1 hi
      simp [this]
    · simp
  rw [e, List.flatten_append]
theorem own_low {B B' t k n : Nat} {w : World} {v : Value} {xs : List Value} (h : w.ownsRow B t k v n xs) (hb : B' ≤ B) : w.ownsRow B' t k v n xs := ⟨h.1, h.2.imp id (fun ⟨g, cap, cur, hv, hB, r⟩ => ⟨g, cap, cur, hv, Nat.le_trans hb hB, r⟩)⟩
theorem and_16 : ∀ a : Nat, a < 16 → ∀ x : Nat, x < 16 → bits BinOp.and IntKind.i64 (a : Int) (x : Int) = ((a &&& x : Nat) : Int) := by decide +kernel
theorem low_neg : ∀ m : Nat, m < 16 → bits BinOp.and IntKind.i64 (m : Int) (-(m : Int)) = ((lowb m : Nat) : Int) := by decide +kernel
/-- What Find hands back. -/
def FindCPost (f : Nat → MW) (m : Nat) (N c : Int) (real : Bool) (w : World) (e : Ending) (w' : World) : Prop :=
  (∃ v k g ok, e = .returned (.tuple #[v, .bool ok]) ∧ TellA f m N c real k g ok ∧ w'.ownsRow w.heap.size 25 8 v k (rowsW g k).flatten) ∧ Below w.heap.size w w'
theorem findC_none {f : Nat → MW} {m : Nat} {N c : Int} {real : Bool} {w w' : World} (h : Bars f m N c) (hb : Below w.heap.size w w') : FindCPost f m N c real w (.returned (.tuple #[.slice none 0 0, .bool false])) w' :=
  ⟨⟨_, 0, fun _ => MW.zero, false, rfl, .inl ⟨h, rfl, rfl⟩, World.ownsRow_nil _ _ _ _⟩, hb⟩

set_option maxHeartbeats 16000000 in
set_option maxRecDepth 100000 in
theorem cfind_is (N : Int) (ao : Option Addr) (cp m : Nat) (f : Nat → MW) (c : Int) (real : Bool) (w : World) (hl : Lw w ao m f) (hm : m ≤ 60) (hT : Tab w) (hC : Cls w) :
    Calls Tryz.prog 8 #[.int .i64 N, .slice ao m cp, .int .i64 c, .bool real] w fun e w' => FindCPost f m N c real w e w' := by
  have HL := hid hl
  have TB := hid hT
  have RO := hid (rowOf_is c real w hC)
  have hq : ∀ (w : World) (a : Option Addr) (n c n' c' : Nat), (binOp .eql 40 (.slice a n c) (.slice none n' c')).run Tryz.prog w = .ok (.bool a.isNone) w := fun w a n c n' c' => Lib.run_eql_slice_nil w _ _ a n c n' c' Tryz.underlying40
  clear hl hT hC
  go_enter Tryz.func8, Tryz.ntmps8
  go_wp2_with fail
  go_at_call 16
  refine RO.out.mono ?_
  rintro e w1 ⟨⟨hcl, rfl⟩ | ⟨hcl, rfl⟩, b1⟩
  rotate_left
  · have B1 := hid b1
    have NB : Hid (Bars f m N c) := .inl hcl
    clear b1 hcl RO
    go_wp2_with fail
    exact bodyPost_ret (v := .tuple #[.slice none 0 0, .bool false]) (by simp [results, Tryz.results8, go_sem]) rfl (findC_none NB.out (B1.out.trans ((below_box w1 _).mono B1.out.size)))
  · have B1 := hid b1
    have HCL := hid hcl
    have hwl := wantN_lt c
    have hol := othN_lt c real
    have WL := hid hwl
    have OL := hid hol
    clear b1 hcl RO hwl hol
    obtain ⟨want, hwant⟩ : ∃ want, wantN c = want := ⟨_, rfl⟩
    obtain ⟨oth, hoth⟩ : ∃ oth, othN c real = oth := ⟨_, rfl⟩
    rw [hwant] at WL ⊢
    rw [hoth] at OL ⊢
    have HW := hid hwant
    have HO := hid hoth
    clear hwant hoth
    obtain ⟨rb, hrb⟩ : ∃ rb, w1.heap.size = rb := ⟨_, rfl⟩
    obtain ⟨W2, hW2⟩ : ∃ W2, w1.alloc (.cells #[.int .i64 c, .int .i64 (want : Nat), .int .i64 (oth : Nat)] 43) = W2 := ⟨_, rfl⟩
    have B2 : Hid (Below w.heap.size w W2 ∧ rb < W2.heap.size ∧ w.heap.size ≤ rb) := by
      rw [← hW2, ← hrb]
      exact ⟨B1.out.trans ((below_box w1 _).mono B1.out.size), by simp, B1.out.size⟩
    have R2 : Hid (W2.heap[rb]? = some (.cells #[.int .i64 c, .int .i64 (want : Nat), .int .i64 (oth : Nat)] 43)) := by rw [← hW2, ← hrb]; exact heap_alloc_new w1 _
    have SC := hid (strCont_is ao m cp f W2 (HL.out.later B2.out.1) (by omega))
    clear B1
    go_wp2_with fail
    go_at_call 17
    refine SC.out.mono ?_
    rintro e w3 ⟨⟨t, rfl, ht⟩, b3⟩
    have HT := hid ht
    have B3 : Hid (Below w.heap.size w w3 ∧ rb < w3.heap.size ∧ w.heap.size ≤ rb) := ⟨B2.out.1.trans (b3.mono B2.out.1.size), Nat.lt_of_lt_of_le B2.out.2.1 b3.size, B2.out.2.2⟩
    have R3 : Hid (w3.heap[rb]? = some (.cells #[.int .i64 c, .int .i64 (want : Nat), .int .i64 (oth : Nat)] 43)) := (b3.block rb B2.out.2.1).trans R2.out
    clear ht b3 SC B2 R2 hW2 hrb
    cases t with
    | true =>
      have NB : Hid (Bars f m N c) := .inr (.inl (HT.out.1 rfl))
      clear HT
      go_wp2_with fail
      exact bodyPost_ret (v := .tuple #[.slice none 0 0, .bool false]) (by simp [results, Tryz.results8, go_sem]) rfl (findC_none NB.out B3.out.1)
    | false =>
      have ON : Hid (∀ j, j < m → one4 (f j).lab) := fun j hj => Classical.byContradiction fun c => by have := HT.out.2 ⟨j, hj, c⟩; cases this
      clear HT
      by_cases hN : N < 0 ∨ 300 < N
      · have GN := hid (dgraph_no N hN (.slice ao m cp) w3)
        have NB : Hid (Bars f m N c) := .inr (.inr (by rcases hN with h | h; exact .inl h; exact .inr (.inl h)))
        clear hN
        go_wp2_with fail
        go_at_call 19
        refine GN.out.mono ?_
        rintro e w4 ⟨rfl, b4⟩
        have B4 : Hid (Below w.heap.size w w4) := B3.out.1.trans (b4.mono B3.out.1.size)
        clear b4 GN
        go_wp2_with fail
        exact bodyPost_ret (v := .tuple #[.slice none 0 0, .bool false]) (by simp [results, Tryz.results8, go_sem]) rfl (findC_none NB.out B4.out)
      · obtain ⟨n, rfl⟩ : ∃ n : Nat, N = n := ⟨N.toNat, by omega⟩
        have hn : n ≤ 300 := by omega
        have DG := hid (dgraph_is n hn ao cp m f w3 (HL.out.later B3.out.1) (by omega))
        clear hN
        go_wp2_with fail
        go_at_call 19
        refine DG.out.mono ?_
        rintro e w4 ⟨hpost, b4⟩
        have B4 : Hid (Below w.heap.size w w4 ∧ rb < w4.heap.size ∧ w.heap.size ≤ rb) := ⟨B3.out.1.trans (b4.mono B3.out.1.size), Nat.lt_of_lt_of_le B3.out.2.1 b4.size, B3.out.2.2⟩
        have R4 : Hid (w4.heap[rb]? = some (.cells #[.int .i64 c, .int .i64 (want : Nat), .int .i64 (oth : Nat)] 43)) := (b4.block rb B3.out.2.1).trans R3.out
        rcases hpost with ⟨why, ⟨j, hj, _, hne, hwy⟩, rfl⟩ | ⟨hall, b, r, bk, ck, rfl, hg, hgb, _⟩
        · have NB : Hid (Bars f m (n : Int) c) := .inr (.inr (.inr (.inr ⟨n, rfl, j, hj, hne⟩)))
          have y1 : (why != 0) = true := by rw [hwy]; simpa using hne
          have y2 : ¬ why = 0 := by rw [hwy]; exact hne
          clear hwy hne b4 DG R3 B3
          go_wp2_with fail
          exact bodyPost_ret (v := .tuple #[.slice none 0 0, .bool false]) (by simp [results, Tryz.results8, go_sem]) rfl (findC_none NB.out B4.out.1)
        · have G4 := hid hg
          have AL := hid hall
          have T4 := hid (TB.out.later B4.out.1)
          clear b4 DG R3 B3 hg hall hgb
          have RN := hid (round_is b n r bk ck (gL f m) want oth c w4 G4.out T4.out WL.out OL.out (gL_diag AL.out))
          have k0 : w4.cell? ⟨rb, 0, none⟩ = some (.int .i64 c) := Lib.cell_of_heap R4.out 0
          have k1 : w4.cell? ⟨rb, 1, none⟩ = some (.int .i64 (want : Nat)) := Lib.cell_of_heap R4.out 1
          have k2 : w4.cell? ⟨rb, 2, none⟩ = some (.int .i64 (oth : Nat)) := Lib.cell_of_heap R4.out 2
          have NBR : Hid (¬ Bars f m (n : Int) c) := by
            rintro (h | ⟨i, hi, h⟩ | h | h | ⟨n', e, i, hi, h⟩)
            · exact h HCL.out
            · exact h (ON.out i hi)
            · omega
            · omega
            · obtain rfl : n = n' := by omega
              exact h (AL.out i hi)
          go_wp2_with fail
          go_at_call 20
          refine RN.out.mono ?_
          rintro e w5 ⟨⟨F, T, q, pv, rfl, hfst, hbest, hql, hpart⟩ | ⟨rfl, hno⟩, b5⟩
          rotate_left
          · have B5 : Hid (Below w.heap.size w w5) := B4.out.1.trans (b5.mono B4.out.1.size)
            have FP : Hid (FindCPost f m (n : Int) c real w (.returned (.tuple #[.slice none 0 0, .bool false])) w5) := ⟨⟨_, 0, fun _ => MW.zero, false, rfl, .inr ⟨NBR.out, n, rfl, hn, .inr ⟨rfl, rfl, by rw [HW.out, HO.out]; exact hno⟩⟩, World.ownsRow_nil _ _ _ _⟩, B5.out⟩
            clear b5 RN hno k0 k1 k2
            go_wp2_with fail
            exact bodyPost_ret (v := .tuple #[.slice none 0 0, .bool false]) (by simp [results, Tryz.results8, go_sem]) rfl FP.out
          · rcases hpart with ⟨_, h0⟩ | ⟨pg, po, pc, cur, rfl, hPg, hgg, hc1, hc2, hsz, hat⟩
            · simp at h0
            have hlen : ((F :: T :: q).map fun z : Nat => (z : Int)).length = q.length + 2 := by simp
            rw [hlen] at hc1 hat ⊢
            have HAT : Hid (∀ i, i < q.length + 2 → w5.cell? ⟨pg, po + i, none⟩ = some (.int .i64 (ndC F T q i : Nat))) := fun i hi => by
              have e : ((F :: T :: q).map fun z : Nat => (z : Int)).getD i 0 = ((ndC F T q i : Nat) : Int) := nat_getD (F :: T :: q) i (by simpa using hi)
              rw [Lib.cell_of_heap hgg, hat i hi, e]
            have pgl : pg < w5.heap.size := blt hgg
            have B5 : Hid (Below w.heap.size w w5 ∧ rb < w5.heap.size ∧ w.heap.size ≤ rb) := ⟨B4.out.1.trans (b5.mono B4.out.1.size), Nat.lt_of_lt_of_le B4.out.2.1 b5.size, B4.out.2.2⟩
            have R5 : Hid (w5.heap[rb]? = some (.cells #[.int .i64 c, .int .i64 (want : Nat), .int .i64 (oth : Nat)] 43)) := (b5.block rb B4.out.2.1).trans R4.out
            have G5 := hid (G4.out.later b5)
            have T5 := hid (T4.out.later b5)
            have L5 := hid (HL.out.later B5.out.1)
            have PGL := hid pgl
            have FST := hid hfst
            have HBE := hid hbest
            have HQL := hid hql
            have hqi : (q.length : Int) ≤ 300 := by omega
            have hpc : (q.length : Int) + 2 ≤ pc := by omega
            have hpcm : (pc : Int) ≤ 9223372036854775807 := by unfold maxLen at hc2; omega
            clear b5 RN hfst hbest hql hPg hgg hc1 hc2 hsz hat hlen pgl R4 G4 T4 B4 k0 k1 k2
            have c0 : w5.cell? ⟨pg, po, none⟩ = some (.int .i64 (F : Nat)) := by have := HAT.out 0 (by omega); simpa [ndC] using this
            have c1 : w5.cell? ⟨pg, po + 1, none⟩ = some (.int .i64 (T : Nat)) := by have := HAT.out 1 (by omega); simpa [ndC] using this
            have k1 : w5.cell? ⟨rb, 1, none⟩ = some (.int .i64 (want : Nat)) := Lib.cell_of_heap R5.out 1
            have hq0 : ¬ (q.length : Int) + 2 ≤ 0 := by omega
            have hq1 : ¬ (q.length : Int) + 2 ≤ 1 := by omega
            go_upto_region 10 with fail
            refine wp_region_gen2 Tryz.mixedOrders (by kernel_rfl) (fun val => { tmps := #[_, _, _, _, _, _, _, _, _, _, _, _, _, _, _, val 13, val 15, _, _, _, _, _, _, _, _, _, _, _, _, _, _, _, _, _, _, _, _, _, _, _, _, _, _, _, _, _, _, val 10, val 0, val 1, val 2, val 3, val 4, val 5, val 6, val 7, val 8, val 9, val 11, val 12, _, _, _, _, _, _, _, _, _, _, _, _, _, _, _, _, _, _, _, _, _, _, _, _, _, _, _, _, _, _, _, _, _, _, _, _, _, _, _, _, _, _, _, _, _], defers := [] }) (fun i => match i with | 0 => undef | 1 => undef | 2 => undef | 3 => undef | 4 => undef | 5 => undef | 6 => undef | 7 => undef | 8 => undef | 9 => undef | 10 => undef | 11 => undef | 12 => undef | 13 => undef | 14 => undef | 15 => undef | _ => undef) rfl (fun L V => Below w5.heap.size w5 V) (fun L i y V => match i with | 0 => y = .slice ao m cp | 1 => y = .slice (some ⟨pg, po, none⟩) (q.length + 2) pc | 2 => y = .pointer (some ⟨pg, po, none⟩) | 3 => y = .int .i64 (F : Nat) | 4 => y = .slice (some ⟨pg, po, none⟩) (q.length + 2) pc | 5 => y = .pointer (some ⟨pg, po + 1, none⟩) | 6 => y = .int .i64 (T : Nat) | 7 => y = .pointer (some ⟨rb, 1, none⟩) | 8 => y = .int .i64 (want : Nat) | 9 => ∃ x ok, y = .tuple #[.agg (encW x).toArray, .bool ok] ∧ IsFind f m (F : Nat) (T : Nat) (want : Nat) x ok | 10 => ∃ x ok, y = .tuple #[.agg (encW x).toArray, .bool ok] ∧ IsFind f m (F : Nat) (T : Nat) (want : Nat) x ok | 11 => ∃ x ok, y = .agg (encW x).toArray ∧ IsFind f m (F : Nat) (T : Nat) (want : Nat) x ok | 12 => ∃ ok : Bool, y = .bool ok | 13 => ∃ p, y = .pointer (some ⟨p, 0, none⟩) ∧ w5.heap.size ≤ p ∧ (L 14 = false → ∃ x0, Bw V p x0) ∧ (L 14 = true → ∃ x ok, IsFind f m (F : Nat) (T : Nat) (want : Nat) x ok ∧ Bw V p x) | 14 => True | 15 => ∃ ok : Bool, y = .bool ok | _ => True) (Below.refl _ _).drew _ rfl ⟨?_, ?_, ?_, ?_, ?_, ?_, ?_, ?_, ?_, ?_, ?_, ?_, ?_, ?_, ?_, ?_, trivial⟩ ?_
            · refine gen_plain2 rfl (fun _ _ => rfl) (fun L val V hc hi hu hg hd => ?_)
              refine gdoes2_value (v := .slice ao m cp) ?_ rfl hg (fun j hj hr => hr)
              simp [execOp, Act.eval, go_sem]
            · refine gen_plain2 rfl (fun _ _ => rfl) (fun L val V hc hi hu hg hd => ?_)
              refine gdoes2_value (v := .slice (some ⟨pg, po, none⟩) (q.length + 2) pc) ?_ rfl hg (fun j hj hr => hr)
              simp [execOp, Act.eval, go_sem]
            · refine gen_plain2 rfl (fun _ _ => rfl) (fun L val V hc hi hu hg hd => ?_)
              have h1 : val 1 = .slice (some ⟨pg, po, none⟩) (q.length + 2) pc := depsG_get hd 1 (by kernel_rfl)
              refine gdoes2_value (v := .pointer (some ⟨pg, po, none⟩)) ?_ rfl hg (fun j hj hr => hr)
              simp [execOp, Act.eval, go_sem, h1, hq0]
            · refine gen_plain2 rfl (fun _ _ => rfl) (fun L val V hc hi hu hg hd => ?_)
              have h2 : val 2 = .pointer (some ⟨pg, po, none⟩) := depsG_get hd 2 (by kernel_rfl)
              have e2 : V.cell? ⟨pg, po, none⟩ = some (.int .i64 (F : Nat)) := (hg.cell (p := ⟨pg, po, none⟩) PGL.out).trans c0
              refine gdoes2_value (v := .int .i64 (F : Nat)) ?_ rfl hg (fun j hj hr => hr)
              simp [execOp, Act.eval, go_sem, h2, e2]
            · refine gen_plain2 rfl (fun _ _ => rfl) (fun L val V hc hi hu hg hd => ?_)
              refine gdoes2_value (v := .slice (some ⟨pg, po, none⟩) (q.length + 2) pc) ?_ rfl hg (fun j hj hr => hr)
              simp [execOp, Act.eval, go_sem]
            · refine gen_plain2 rfl (fun _ _ => rfl) (fun L val V hc hi hu hg hd => ?_)
              have h4 : val 4 = .slice (some ⟨pg, po, none⟩) (q.length + 2) pc := depsG_get hd 4 (by kernel_rfl)
              refine gdoes2_value (v := .pointer (some ⟨pg, po + 1, none⟩)) ?_ rfl hg (fun j hj hr => hr)
              simp [execOp, Act.eval, go_sem, h4, hq1]
            · refine gen_plain2 rfl (fun _ _ => rfl) (fun L val V hc hi hu hg hd => ?_)
              have h5 : val 5 = .pointer (some ⟨pg, po + 1, none⟩) := depsG_get hd 5 (by kernel_rfl)
              have e2 : V.cell? ⟨pg, po + 1, none⟩ = some (.int .i64 (T : Nat)) := (hg.cell (p := ⟨pg, po + 1, none⟩) PGL.out).trans c1
              refine gdoes2_value (v := .int .i64 (T : Nat)) ?_ rfl hg (fun j hj hr => hr)
              simp [execOp, Act.eval, go_sem, h5, e2]
            · refine gen_plain2 rfl (fun _ _ => rfl) (fun L val V hc hi hu hg hd => ?_)
              refine gdoes2_value (v := .pointer (some ⟨rb, 1, none⟩)) ?_ rfl hg (fun j hj hr => hr)
              simp [execOp, Act.eval, go_sem]
            · refine gen_plain2 rfl (fun _ _ => rfl) (fun L val V hc hi hu hg hd => ?_)
              have h7 : val 7 = .pointer (some ⟨rb, 1, none⟩) := depsG_get hd 7 (by kernel_rfl)
              have e2 : V.cell? ⟨rb, 1, none⟩ = some (.int .i64 (want : Nat)) := (hg.cell (p := ⟨rb, 1, none⟩) B5.out.2.1).trans k1
              refine gdoes2_value (v := .int .i64 (want : Nat)) ?_ rfl hg (fun j hj hr => hr)
              simp [execOp, Act.eval, go_sem, h7, e2]
            · refine gen_plain2 rfl (fun _ _ => rfl) (fun L val V hc hi hu hg hd => ?_)
              have h0 : val 0 = .slice ao m cp := depsG_get hd 0 (by kernel_rfl)
              have h3 : val 3 = .int .i64 (F : Nat) := depsG_get hd 3 (by kernel_rfl)
              have h6 : val 6 = .int .i64 (T : Nat) := depsG_get hd 6 (by kernel_rfl)
              have h8 : val 8 = .int .i64 (want : Nat) := depsG_get hd 8 (by kernel_rfl)
              refine gdoes2_call (f := 21) (args := #[.slice ao m cp, .int .i64 (F : Nat), .int .i64 (T : Nat), .int .i64 (want : Nat)]) ?_ (find_is ao cp m f (F : Nat) (T : Nat) (want : Nat) V (L5.out.later hg) (by omega)) ?_
              · simp [execOp, Act.eval, go_sem, resolve, invoke, h0, h3, h6, h8]
              · rintro e w' ⟨x, ok, rfl, hx, hb3⟩
                have hbv : Below V.heap.size V w' := hb3
                refine ⟨_, rfl, ⟨x, ok, rfl, hx⟩, hg.trans (hb3.mono hg.size), fun j hj hr => ?_⟩
                match j, hj, hr with
                | 0, hj, hr => exact hr
                | 1, hj, hr => exact hr
                | 2, hj, hr => exact hr
                | 3, hj, hr => exact hr
                | 4, hj, hr => exact hr
                | 5, hj, hr => exact hr
                | 6, hj, hr => exact hr
                | 7, hj, hr => exact hr
                | 8, hj, hr => exact hr
                | 9, hj, hr => exact hr
                | 10, hj, hr => exact hr
                | 11, hj, hr => exact hr
                | 12, hj, hr => exact hr
                | 13, hj, hr => exact (let ⟨p, e, hp, h1, h2⟩ := hr; ⟨p, e, hp, fun c => (let ⟨x0, hx⟩ := h1 c; ⟨x0, hx.later hbv⟩), fun c => (let ⟨x, ok, hf, hx⟩ := h2 c; ⟨x, ok, hf, hx.later hbv⟩)⟩)
                | 14, hj, hr => exact hr
                | 15, hj, hr => exact hr
                | _ + 16, hj, hr => trivial
            · refine gen_plain2 rfl (fun _ _ => rfl) (fun L val V hc hi hu hg hd => ?_)
              obtain ⟨x, ok, h9, hx⟩ := depsG_get hd 9 (by kernel_rfl)
              refine gdoes2_value (v := .tuple #[.agg (encW x).toArray, .bool ok]) ?_ ⟨x, ok, rfl, hx⟩ hg (fun j hj hr => hr)
              simp [execOp, Act.eval, go_sem, h9]
            · refine gen_plain2 rfl (fun _ _ => rfl) (fun L val V hc hi hu hg hd => ?_)
              obtain ⟨x, ok, h9, hx⟩ := depsG_get hd 10 (by kernel_rfl)
              refine gdoes2_value (v := .agg (encW x).toArray) ?_ ⟨x, ok, rfl, hx⟩ hg (fun j hj hr => hr)
              simp [execOp, Act.eval, go_sem, h9]
            · refine gen_plain2 rfl (fun _ _ => rfl) (fun L val V hc hi hu hg hd => ?_)
              obtain ⟨x, ok, h9, hx⟩ := depsG_get hd 10 (by kernel_rfl)
              refine gdoes2_value (v := .bool ok) ?_ ⟨ok, rfl⟩ hg (fun j hj hr => hr)
              simp [execOp, Act.eval, go_sem, h9]
            · refine gen_plain2 rfl (fun _ _ => rfl) (fun L val V hc hi hu hg hd => ?_)
              have h14 : L 14 = false := wants_back hc 16 14 13 (by kernel_rfl) hi
              have hbv : Below V.heap.size V (V.alloc (.cells #[.int .i64 0, .int .i64 0, .int .i64 0, .string ⟨#[]⟩, .int .i64 0, .int .i64 0, .bool false, .bool false] 25)) := below_box V _
              refine gdoes2_turn (v := .pointer (some ⟨V.heap.size, 0, none⟩)) (w' := V.alloc (.cells #[.int .i64 0, .int .i64 0, .int .i64 0, .string ⟨#[]⟩, .int .i64 0, .int .i64 0, .bool false, .bool false] 25)) ?_ ⟨V.heap.size, rfl, hg.size, fun _ => ⟨_, Bw.made V 0 0 0 ⟨#[]⟩ 0 0 false false 25⟩, fun c => (by rw [show upB L 13 14 = L 14 from rfl, h14] at c; cases c)⟩ (hg.trans (hbv.mono hg.size)) (fun j hj hr => ?_)
              · simp [execOp, Act.eval, go_sem, Tryz.infoW]
              · match j, hj, hr with
                | 0, hj, hr => exact hr
                | 1, hj, hr => exact hr
                | 2, hj, hr => exact hr
                | 3, hj, hr => exact hr
                | 4, hj, hr => exact hr
                | 5, hj, hr => exact hr
                | 6, hj, hr => exact hr
                | 7, hj, hr => exact hr
                | 8, hj, hr => exact hr
                | 9, hj, hr => exact hr
                | 10, hj, hr => exact hr
                | 11, hj, hr => exact hr
                | 12, hj, hr => exact hr
                | 13, hj, hr => rw [hi] at hj; cases hj
                | 14, hj, hr => exact hr
                | 15, hj, hr => exact hr
                | _ + 16, hj, hr => trivial
            · refine gen_plain2 rfl (fun _ _ => rfl) (fun L val V hc hi hu hg hd => ?_)
              obtain ⟨x, ok, h11, hx⟩ := depsG_get hd 11 (by kernel_rfl)
              obtain ⟨p, h13, hp, h1, h2⟩ := depsG_get hd 13 (by kernel_rfl)
              obtain ⟨x0, hbw⟩ := h1 hi
              refine gdoes2_skip (w' := V.setCells p 0 (encW x)) ?_ trivial (below_put p hp _ _ _ hg) (fun j hj hr => ?_)
              · obtain ⟨y0, y1, y2, y3, y4, y5, y6, y7⟩ := x
                obtain ⟨z0, z1, z2, z3, z4, z5, z6, z7⟩ := hbw.eight
                have fr := hbw.2.1
                simp only [MW.src, MW.dst, MW.lab, MW.key, MW.va, MW.vb, MW.nl, MW.cond] at z0 z1 z2 z3 z4 z5 z6 z7
                simp [execOp, Act.eval, go_sem, h11, h13, encW, fr, z0, z1, z2, z3, z4, z5, z6, z7]
                rfl
              · match j, hj, hr with
                | 0, hj, hr => exact hr
                | 1, hj, hr => exact hr
                | 2, hj, hr => exact hr
                | 3, hj, hr => exact hr
                | 4, hj, hr => exact hr
                | 5, hj, hr => exact hr
                | 6, hj, hr => exact hr
                | 7, hj, hr => exact hr
                | 8, hj, hr => exact hr
                | 9, hj, hr => exact hr
                | 10, hj, hr => exact hr
                | 11, hj, hr => exact hr
                | 12, hj, hr => exact hr
                | 13, hj, hr => exact ⟨p, h13, hp, fun c => (by rw [show upB L 14 14 = true from upB_self L 14] at c; cases c), fun _ => ⟨x, ok, hx, hbw.put x⟩⟩
                | 14, hj, hr => exact hr
                | 15, hj, hr => exact hr
                | _ + 16, hj, hr => trivial
            · refine gen_plain2 rfl (fun _ _ => rfl) (fun L val V hc hi hu hg hd => ?_)
              obtain ⟨ok, h12⟩ := depsG_get hd 12 (by kernel_rfl)
              refine gdoes2_value (v := .bool ok) ?_ ⟨ok, rfl⟩ hg (fun j hj hr => hr)
              simp [execOp, Act.eval, go_sem, h12]
            intro L val V hL hg hR
            obtain ⟨p, hv13, hp, _, hx2⟩ := hR 13 (by decide)
            obtain ⟨x, okx, hfx, hbx⟩ := hx2 (hL 14 (by decide))
            have BV := hid hg
            have BX := hid hbx
            have FX := hid hfx
            have HP := hid hp
            clear hR hx2 hbx hfx hg hp c0 c1 k1 hq0 hq1
            dsimp only
            rw [hv13]
            obtain ⟨x0, x1, x2, x3, x4, x5, x6, x7⟩ := x
            obtain ⟨d0, d1, d2, d3, d4, d5, d6, d7⟩ := BX.out.eight
            simp only [MW.src, MW.dst, MW.lab, MW.key, MW.va, MW.vb, MW.nl, MW.cond] at d0 d1 d2 d3 d4 d5 d6 d7
            generalize val 15 = y15
            have dz : p < V.heap.size := BX.out.1
            obtain ⟨W6, hW6⟩ : ∃ W6, V.alloc (.cells #[.int .i64 x0, .int .i64 x1, .int .i64 x2, .string x3, .int .i64 x4, .int .i64 x5, .bool x6, .bool x7] 25) = W6 := ⟨_, rfl⟩
            obtain ⟨K6, hK6⟩ : ∃ K6, V.heap.size = K6 := ⟨_, rfl⟩
            have OW6 : Hid (W6.ownsRow w5.heap.size 25 8 (.slice (some ⟨K6, 0, none⟩) 1 1) 1 (rowsW (fun _ => (x0, x1, x2, x3, x4, x5, x6, x7)) 1).flatten) := by
              rw [← hW6, ← hK6]
              have h1 := owns_one V x0 x1 x2 x3 x4 x5 x6 x7
              exact own_low h1 BV.out.size
            have B6 : Hid (Below w.heap.size w W6 ∧ Below w5.heap.size w5 W6) := by
              rw [← hW6]
              have q1 : Below w5.heap.size w5 (V.alloc (.cells #[.int .i64 x0, .int .i64 x1, .int .i64 x2, .string x3, .int .i64 x4, .int .i64 x5, .bool x6, .bool x7] 25)) := BV.out.trans ((below_box V _).mono BV.out.size)
              exact ⟨B5.out.1.trans (q1.mono B5.out.1.size), q1⟩
            have P0 : Hid (PartC f m (gL f m) want oth F T q 1 (fun _ => (x0, x1, x2, x3, x4, x5, x6, x7))) := fun i hi => by
              obtain rfl : i = 0 := by omega
              exact ⟨okx, by simpa [ndC, labC] using FX.out⟩
            clear hv13 BX FX HP BV
            go_wp2_with fail
            clear hW6
            go_loopg [17, 18, 19, 20, 21] (q.length + 1) (fun g cv iv _ _ _ wr => ∃ (k : Nat) (G : Nat → MW), 1 ≤ k ∧ k ≤ q.length + 1 ∧ q.length + 1 - k ≤ g ∧ iv = .int .i64 ((k : Int) + 1) ∧ Aside (wr.ownsRow w5.heap.size 25 8 cv k (rowsW G k).flatten) ∧ Aside (PartC f m (gL f m) want oth F T q k G) ∧ Aside (Below w.heap.size w wr ∧ Below w5.heap.size w5 wr))
            case atStart => exact ⟨1, fun _ => (x0, x1, x2, x3, x4, x5, x6, x7), Nat.le_refl _, by omega, by omega, rfl, OW6.out, P0.out, B6.out⟩
            case round =>
              clear OW6 P0 B6 hK6 dz d0 d1 d2 d3 d4 d5 d6 d7
              obtain ⟨k, G, hk1, hk, hg, rfl, OX, PX, BX⟩ := hrel
              obtain ⟨ca, cc, hcv⟩ := own_form OX.out
              obtain ⟨hcv, hkc⟩ := hcv
              subst hcv
              have hki : (k : Int) ≤ 301 := by omega
              have hk0 : (0 : Int) ≤ k := by omega
              by_cases hlt : k < q.length + 1
              · have hlti : (k : Int) + 1 < (q.length : Int) + 2 := by omega
                have p0 : wr.cell? ⟨pg, po + k, none⟩ = some (.int .i64 (ndC F T q k : Nat)) := (BX.out.2.cell (p := ⟨pg, po + k, none⟩) PGL.out).trans (HAT.out k (by omega))
                have p1 : wr.cell? ⟨pg, po + (k + 1), none⟩ = some (.int .i64 (ndC F T q (k + 1) : Nat)) := (BX.out.2.cell (p := ⟨pg, po + (k + 1), none⟩) PGL.out).trans (HAT.out (k + 1) (by omega))
                have rz : rb < wr.heap.size := Nat.lt_of_lt_of_le B5.out.2.1 BX.out.2.size
                have r2 : wr.cell? ⟨rb, 2, none⟩ = some (.int .i64 (oth : Nat)) := Lib.cell_of_heap ((BX.out.2.block rb B5.out.2.1).trans R5.out) 2
                have hnl : ndC F T q k < n := ndC_lt FST.out HBE.out k (by omega)
                have GLA := hid (glabels_ok b n r (ndC F T q k) bk ck (gL f m) (ndC F T q (k + 1)) wr.drew ((G5.out.later BX.out.2).later (Below.refl _ _).drew) hnl)
                obtain ⟨na, hna⟩ : ∃ na, ndC F T q k = na := ⟨_, rfl⟩
                obtain ⟨nb, hnb⟩ : ∃ nb, ndC F T q (k + 1) = nb := ⟨_, rfl⟩
                rw [hna] at p0 GLA
                rw [hnb] at p1 GLA
                have HNA := hid hna
                have HNB := hid hnb
                obtain ⟨lb, hlb⟩ : ∃ lb, gL f m na nb = lb := ⟨_, rfl⟩
                have hl16 : lb < 16 := by rw [← hlb]; exact gL_16 f (fun _ => .inr trivial) m na nb
                rw [hlb] at GLA
                have HLB := hid hlb
                have ha16 := and_16 lb hl16 oth OL.out
                obtain ⟨lo, hlo⟩ : ∃ lo, lb &&& oth = lo := ⟨_, rfl⟩
                rw [hlo] at ha16
                have hlo16 : lo < 16 := by rw [← hlo]; exact Nat.lt_of_le_of_lt Nat.and_le_left hl16
                have hln := low_neg lo hlo16
                have HLO := hid hlo
                have hb1 : (po : Int) = (po : Int) := rfl
                clear hna hnb hlb hlo hb1 hnl
                have hloi : (lo : Int) < 16 := by omega
                have hlbi : (lb : Int) < 16 := by omega
                have wk : IntKind.i64.wrap (k : Int) = (k : Int) := by
                  rw [IntKind.wrap_i64]
                  omega
                have wneg : IntKind.i64.wrap (-(lo : Int)) = -(lo : Int) := by
                  rw [IntKind.wrap_i64]
                  omega
                have ix0 : ¬ (q.length : Int) + 2 ≤ (k : Int) := by omega
                have ix1 : ¬ (q.length : Int) + 2 ≤ (k : Int) + 1 := by omega
                have kp : (0 : Int) ≤ (k : Int) + 1 := by omega
                go_upto_region 15 with fail
                refine wp_region_gen2 Tryz.mixedOrders (by kernel_rfl) (fun val => { tmps := #[_, _, _, _, _, _, _, _, _, _, _, _, _, _, _, _, _, _, _, val 14, _, _, _, _, _, _, _, _, _, _, _, _, _, _, _, _, _, _, _, _, _, _, _, _, _, _, _, _, _, _, _, _, _, _, _, _, _, _, _, _, _, _, _, _, _, _, _, _, val 0, val 1, val 2, val 3, val 4, val 5, val 6, val 7, val 8, val 9, val 10, val 11, val 12, val 13, _, _, _, _, _, _, _, _, _, _, _, _, _, _, _, _, _, _, _, _, _, _, _], defers := [] }) (fun i => match i with | 0 => u68 | 1 => u69 | 2 => u70 | 3 => u71 | 4 => u72 | 5 => u73 | 6 => u74 | 7 => u75 | 8 => u76 | 9 => u77 | 10 => u78 | 11 => u79 | 12 => u80 | 13 => u81 | 14 => u19 | _ => undef) rfl (fun L V => V = wr.drew) (fun L i y V => match i with | 0 => y = .pointer (some ⟨b, 0, none⟩) | 1 => y = .slice (some ⟨pg, po, none⟩) (q.length + 2) pc | 2 => y = .int .i64 ((k : Int) + 1) | 3 => y = .int .i64 (k : Int) | 4 => y = .pointer (some ⟨pg, po + k, none⟩) | 5 => y = .int .i64 (na : Nat) | 6 => y = .slice (some ⟨pg, po, none⟩) (q.length + 2) pc | 7 => y = .int .i64 ((k : Int) + 1) | 8 => y = .pointer (some ⟨pg, po + (k + 1), none⟩) | 9 => y = .int .i64 (nb : Nat) | 10 => y = .int .i64 (lb : Nat) | 11 => y = .pointer (some ⟨rb, 2, none⟩) | 12 => y = .int .i64 (oth : Nat) | 13 => y = .int .i64 (lo : Nat) | 14 => y = .int .i64 (lo : Nat) | _ => True) rfl _ rfl ⟨?_, ?_, ?_, ?_, ?_, ?_, ?_, ?_, ?_, ?_, ?_, ?_, ?_, ?_, ?_, trivial⟩ ?_
                · refine gen_plain2 rfl (fun _ _ => rfl) (fun L val V hc hi hu hg hd => ?_)
                  refine gdoes2_value (v := .pointer (some ⟨b, 0, none⟩)) ?_ rfl hg (fun j hj hr => hr)
                  simp [execOp, Act.eval, go_sem]
                · refine gen_plain2 rfl (fun _ _ => rfl) (fun L val V hc hi hu hg hd => ?_)
                  refine gdoes2_value (v := .slice (some ⟨pg, po, none⟩) (q.length + 2) pc) ?_ rfl hg (fun j hj hr => hr)
                  simp [execOp, Act.eval, go_sem]
                · refine gen_plain2 rfl (fun _ _ => rfl) (fun L val V hc hi hu hg hd => ?_)
                  refine gdoes2_value (v := .int .i64 ((k : Int) + 1)) ?_ rfl hg (fun j hj hr => hr)
                  simp [execOp, Act.eval, go_sem]
                · refine gen_plain2 rfl (fun _ _ => rfl) (fun L val V hc hi hu hg hd => ?_)
                  have h2 : val 2 = .int .i64 ((k : Int) + 1) := depsG_get hd 2 (by kernel_rfl)
                  refine gdoes2_value (v := .int .i64 (k : Int)) ?_ rfl hg (fun j hj hr => hr)
                  simp [execOp, Act.eval, go_sem, h2, wk]
                · refine gen_plain2 rfl (fun _ _ => rfl) (fun L val V hc hi hu hg hd => ?_)
                  have h1 : val 1 = .slice (some ⟨pg, po, none⟩) (q.length + 2) pc := depsG_get hd 1 (by kernel_rfl)
                  have h3 : val 3 = .int .i64 (k : Int) := depsG_get hd 3 (by kernel_rfl)
                  refine gdoes2_value (v := .pointer (some ⟨pg, po + k, none⟩)) ?_ rfl hg (fun j hj hr => hr)
                  simp [execOp, Act.eval, go_sem, h1, h3, ix0]
                · refine gen_plain2 rfl (fun _ _ => rfl) (fun L val V hc hi hu hg hd => ?_)
                  have h4 : val 4 = .pointer (some ⟨pg, po + k, none⟩) := depsG_get hd 4 (by kernel_rfl)
                  have e2 : V.cell? ⟨pg, po + k, none⟩ = some (.int .i64 (na : Nat)) := by rw [hg]; exact p0
                  refine gdoes2_value (v := .int .i64 (na : Nat)) ?_ rfl hg (fun j hj hr => hr)
                  simp [execOp, Act.eval, go_sem, h4, e2]
                · refine gen_plain2 rfl (fun _ _ => rfl) (fun L val V hc hi hu hg hd => ?_)
                  refine gdoes2_value (v := .slice (some ⟨pg, po, none⟩) (q.length + 2) pc) ?_ rfl hg (fun j hj hr => hr)
                  simp [execOp, Act.eval, go_sem]
                · refine gen_plain2 rfl (fun _ _ => rfl) (fun L val V hc hi hu hg hd => ?_)
                  refine gdoes2_value (v := .int .i64 ((k : Int) + 1)) ?_ rfl hg (fun j hj hr => hr)
                  simp [execOp, Act.eval, go_sem]
                · refine gen_plain2 rfl (fun _ _ => rfl) (fun L val V hc hi hu hg hd => ?_)
                  have h6 : val 6 = .slice (some ⟨pg, po, none⟩) (q.length + 2) pc := depsG_get hd 6 (by kernel_rfl)
                  have h7 : val 7 = .int .i64 ((k : Int) + 1) := depsG_get hd 7 (by kernel_rfl)
                  refine gdoes2_value (v := .pointer (some ⟨pg, po + (k + 1), none⟩)) ?_ rfl hg (fun j hj hr => hr)
                  simp [execOp, Act.eval, go_sem, h6, h7, kp, ix1]
                · refine gen_plain2 rfl (fun _ _ => rfl) (fun L val V hc hi hu hg hd => ?_)
                  have h8 : val 8 = .pointer (some ⟨pg, po + (k + 1), none⟩) := depsG_get hd 8 (by kernel_rfl)
                  have e2 : V.cell? ⟨pg, po + (k + 1), none⟩ = some (.int .i64 (nb : Nat)) := by rw [hg]; exact p1
                  refine gdoes2_value (v := .int .i64 (nb : Nat)) ?_ rfl hg (fun j hj hr => hr)
                  simp [execOp, Act.eval, go_sem, h8, e2]
                · refine gen_plain2 rfl (fun _ _ => rfl) (fun L val V hc hi hu hg hd => ?_)
                  have h0 : val 0 = .pointer (some ⟨b, 0, none⟩) := depsG_get hd 0 (by kernel_rfl)
                  have h5 : val 5 = .int .i64 (na : Nat) := depsG_get hd 5 (by kernel_rfl)
                  have h9 : val 9 = .int .i64 (nb : Nat) := depsG_get hd 9 (by kernel_rfl)
                  refine gdoes2_call (f := 22) (args := #[.pointer (some ⟨b, 0, none⟩), .int .i64 (na : Nat), .int .i64 (nb : Nat)]) ?_ (by rw [hg]; exact GLA.out) ?_
                  · simp [execOp, Act.eval, go_sem, resolve, invoke, h0, h5, h9]
                  · rintro e w' ⟨rfl, hw9⟩
                    refine ⟨_, rfl, rfl, hw9.symm, fun j hj hr => hr⟩
                · refine gen_plain2 rfl (fun _ _ => rfl) (fun L val V hc hi hu hg hd => ?_)
                  refine gdoes2_value (v := .pointer (some ⟨rb, 2, none⟩)) ?_ rfl hg (fun j hj hr => hr)
                  simp [execOp, Act.eval, go_sem]
                · refine gen_plain2 rfl (fun _ _ => rfl) (fun L val V hc hi hu hg hd => ?_)
                  have h11 : val 11 = .pointer (some ⟨rb, 2, none⟩) := depsG_get hd 11 (by kernel_rfl)
                  have e2 : V.cell? ⟨rb, 2, none⟩ = some (.int .i64 (oth : Nat)) := by rw [hg]; exact r2
                  refine gdoes2_value (v := .int .i64 (oth : Nat)) ?_ rfl hg (fun j hj hr => hr)
                  simp [execOp, Act.eval, go_sem, h11, e2]
                · refine gen_plain2 rfl (fun _ _ => rfl) (fun L val V hc hi hu hg hd => ?_)
                  have h10 : val 10 = .int .i64 (lb : Nat) := depsG_get hd 10 (by kernel_rfl)
                  have h12 : val 12 = .int .i64 (oth : Nat) := depsG_get hd 12 (by kernel_rfl)
                  refine gdoes2_value (v := .int .i64 (lo : Nat)) ?_ rfl hg (fun j hj hr => hr)
                  simp [execOp, Act.eval, go_sem, h10, h12, ha16]
                · refine gen_plain2 rfl (fun _ _ => rfl) (fun L val V hc hi hu hg hd => ?_)
                  have h13 : val 13 = .int .i64 (lo : Nat) := depsG_get hd 13 (by kernel_rfl)
                  refine gdoes2_value (v := .int .i64 (lo : Nat)) ?_ rfl hg (fun j hj hr => hr)
                  simp [execOp, Act.eval, go_sem, h13]
                intro L val V hL hg hR
                have v14 : val 14 = .int .i64 (lo : Nat) := hR 14 (by decide)
                subst hg
                clear hR hL GLA ha16
                dsimp only
                rw [v14]
                clear v14
                go_upto_region 16 with fail
                refine wp_region_gen2 Tryz.mixedOrders (by kernel_rfl) (fun val => { tmps := #[_, _, _, _, _, _, _, _, _, _, _, _, _, _, _, _, _, _, _, _, val 18, val 20, _, _, _, _, _, _, _, _, _, _, _, _, _, _, _, _, _, _, _, _, _, _, _, _, _, _, _, _, _, _, _, _, _, _, _, _, _, _, _, _, _, _, _, _, _, _, _, _, _, _, _, _, _, _, _, _, _, _, _, _, val 15, val 0, val 1, val 2, val 3, val 4, val 5, val 6, val 7, val 8, val 9, val 10, val 11, val 12, val 13, val 14, val 16, val 17, _, _, _, _, _], defers := [] }) (fun i => match i with | 0 => u83 | 1 => u84 | 2 => u85 | 3 => u86 | 4 => u87 | 5 => u88 | 6 => u89 | 7 => u90 | 8 => u91 | 9 => u92 | 10 => u93 | 11 => u94 | 12 => u95 | 13 => u96 | 14 => u97 | 15 => u82 | 16 => u98 | 17 => u99 | 18 => u20 | 19 => undef | 20 => u21 | _ => undef) rfl (fun L V => Below wr.heap.size wr V) (fun L i y V => match i with | 0 => y = .slice ao m cp | 1 => y = .slice (some ⟨pg, po, none⟩) (q.length + 2) pc | 2 => y = .int .i64 ((k : Int) + 1) | 3 => y = .int .i64 (k : Int) | 4 => y = .pointer (some ⟨pg, po + k, none⟩) | 5 => y = .int .i64 (na : Nat) | 6 => y = .slice (some ⟨pg, po, none⟩) (q.length + 2) pc | 7 => y = .int .i64 ((k : Int) + 1) | 8 => y = .pointer (some ⟨pg, po + (k + 1), none⟩) | 9 => y = .int .i64 (nb : Nat) | 10 => y = .int .i64 (lo : Nat) | 11 => y = .int .i64 (lo : Nat) | 12 => y = .int .i64 (-(lo : Int)) | 13 => y = .int .i64 (lowb lo : Nat) | 14 => ∃ x ok, y = .tuple #[.agg (encW x).toArray, .bool ok] ∧ IsFind f m (na : Nat) (nb : Nat) (lowb lo : Nat) x ok | 15 => ∃ x ok, y = .tuple #[.agg (encW x).toArray, .bool ok] ∧ IsFind f m (na : Nat) (nb : Nat) (lowb lo : Nat) x ok | 16 => ∃ x ok, y = .agg (encW x).toArray ∧ IsFind f m (na : Nat) (nb : Nat) (lowb lo : Nat) x ok | 17 => ∃ ok : Bool, y = .bool ok | 18 => ∃ p, y = .pointer (some ⟨p, 0, none⟩) ∧ wr.heap.size ≤ p ∧ (L 19 = false → ∃ x0, Bw V p x0) ∧ (L 19 = true → ∃ x ok, IsFind f m (na : Nat) (nb : Nat) (lowb lo : Nat) x ok ∧ Bw V p x) | 19 => True | 20 => ∃ ok : Bool, y = .bool ok | _ => True) ((Below.refl _ _).drew).drew _ rfl ⟨?_, ?_, ?_, ?_, ?_, ?_, ?_, ?_, ?_, ?_, ?_, ?_, ?_, ?_, ?_, ?_, ?_, ?_, ?_, ?_, ?_, trivial⟩ ?_
                · refine gen_plain2 rfl (fun _ _ => rfl) (fun L val V hc hi hu hg hd => ?_)
                  refine gdoes2_value (v := .slice ao m cp) ?_ rfl hg (fun j hj hr => hr)
                  simp [execOp, Act.eval, go_sem]
                · refine gen_plain2 rfl (fun _ _ => rfl) (fun L val V hc hi hu hg hd => ?_)
                  refine gdoes2_value (v := .slice (some ⟨pg, po, none⟩) (q.length + 2) pc) ?_ rfl hg (fun j hj hr => hr)
                  simp [execOp, Act.eval, go_sem]
                · refine gen_plain2 rfl (fun _ _ => rfl) (fun L val V hc hi hu hg hd => ?_)
                  refine gdoes2_value (v := .int .i64 ((k : Int) + 1)) ?_ rfl hg (fun j hj hr => hr)
                  simp [execOp, Act.eval, go_sem]
                · refine gen_plain2 rfl (fun _ _ => rfl) (fun L val V hc hi hu hg hd => ?_)
                  have h2 : val 2 = .int .i64 ((k : Int) + 1) := depsG_get hd 2 (by kernel_rfl)
                  refine gdoes2_value (v := .int .i64 (k : Int)) ?_ rfl hg (fun j hj hr => hr)
                  simp [execOp, Act.eval, go_sem, h2, wk]
                · refine gen_plain2 rfl (fun _ _ => rfl) (fun L val V hc hi hu hg hd => ?_)
                  have h1 : val 1 = .slice (some ⟨pg, po, none⟩) (q.length + 2) pc := depsG_get hd 1 (by kernel_rfl)
                  have h3 : val 3 = .int .i64 (k : Int) := depsG_get hd 3 (by kernel_rfl)
                  refine gdoes2_value (v := .pointer (some ⟨pg, po + k, none⟩)) ?_ rfl hg (fun j hj hr => hr)
                  simp [execOp, Act.eval, go_sem, h1, h3, ix0]
                · refine gen_plain2 rfl (fun _ _ => rfl) (fun L val V hc hi hu hg hd => ?_)
                  have h4 : val 4 = .pointer (some ⟨pg, po + k, none⟩) := depsG_get hd 4 (by kernel_rfl)
                  have e2 : V.cell? ⟨pg, po + k, none⟩ = some (.int .i64 (na : Nat)) := (hg.cell (p := ⟨pg, po + k, none⟩) (Nat.lt_of_lt_of_le PGL.out BX.out.2.size)).trans p0
                  refine gdoes2_value (v := .int .i64 (na : Nat)) ?_ rfl hg (fun j hj hr => hr)
                  simp [execOp, Act.eval, go_sem, h4, e2]
                · refine gen_plain2 rfl (fun _ _ => rfl) (fun L val V hc hi hu hg hd => ?_)
                  refine gdoes2_value (v := .slice (some ⟨pg, po, none⟩) (q.length + 2) pc) ?_ rfl hg (fun j hj hr => hr)
                  simp [execOp, Act.eval, go_sem]
                · refine gen_plain2 rfl (fun _ _ => rfl) (fun L val V hc hi hu hg hd => ?_)
                  refine gdoes2_value (v := .int .i64 ((k : Int) + 1)) ?_ rfl hg (fun j hj hr => hr)
                  simp [execOp, Act.eval, go_sem]
                · refine gen_plain2 rfl (fun _ _ => rfl) (fun L val V hc hi hu hg hd => ?_)
                  have h6 : val 6 = .slice (some ⟨pg, po, none⟩) (q.length + 2) pc := depsG_get hd 6 (by kernel_rfl)
                  have h7 : val 7 = .int .i64 ((k : Int) + 1) := depsG_get hd 7 (by kernel_rfl)
                  refine gdoes2_value (v := .pointer (some ⟨pg, po + (k + 1), none⟩)) ?_ rfl hg (fun j hj hr => hr)
                  simp [execOp, Act.eval, go_sem, h6, h7, kp, ix1]
                · refine gen_plain2 rfl (fun _ _ => rfl) (fun L val V hc hi hu hg hd => ?_)
                  have h8 : val 8 = .pointer (some ⟨pg, po + (k + 1), none⟩) := depsG_get hd 8 (by kernel_rfl)
                  have e2 : V.cell? ⟨pg, po + (k + 1), none⟩ = some (.int .i64 (nb : Nat)) := (hg.cell (p := ⟨pg, po + (k + 1), none⟩) (Nat.lt_of_lt_of_le PGL.out BX.out.2.size)).trans p1
                  refine gdoes2_value (v := .int .i64 (nb : Nat)) ?_ rfl hg (fun j hj hr => hr)
                  simp [execOp, Act.eval, go_sem, h8, e2]
                · refine gen_plain2 rfl (fun _ _ => rfl) (fun L val V hc hi hu hg hd => ?_)
                  refine gdoes2_value (v := .int .i64 (lo : Nat)) ?_ rfl hg (fun j hj hr => hr)
                  simp [execOp, Act.eval, go_sem]
                · refine gen_plain2 rfl (fun _ _ => rfl) (fun L val V hc hi hu hg hd => ?_)
                  refine gdoes2_value (v := .int .i64 (lo : Nat)) ?_ rfl hg (fun j hj hr => hr)
                  simp [execOp, Act.eval, go_sem]
                · refine gen_plain2 rfl (fun _ _ => rfl) (fun L val V hc hi hu hg hd => ?_)
                  have h11 : val 11 = .int .i64 (lo : Nat) := depsG_get hd 11 (by kernel_rfl)
                  refine gdoes2_value (v := .int .i64 (-(lo : Int))) ?_ rfl hg (fun j hj hr => hr)
                  simp [execOp, Act.eval, go_sem, h11, wneg]
                · refine gen_plain2 rfl (fun _ _ => rfl) (fun L val V hc hi hu hg hd => ?_)
                  have h10 : val 10 = .int .i64 (lo : Nat) := depsG_get hd 10 (by kernel_rfl)
                  have h12 : val 12 = .int .i64 (-(lo : Int)) := depsG_get hd 12 (by kernel_rfl)
                  refine gdoes2_value (v := .int .i64 (lowb lo : Nat)) ?_ rfl hg (fun j hj hr => hr)
                  simp [execOp, Act.eval, go_sem, h10, h12, hln]
                · refine gen_plain2 rfl (fun _ _ => rfl) (fun L val V hc hi hu hg hd => ?_)
                  have h0 : val 0 = .slice ao m cp := depsG_get hd 0 (by kernel_rfl)
                  have h5 : val 5 = .int .i64 (na : Nat) := depsG_get hd 5 (by kernel_rfl)
                  have h9 : val 9 = .int .i64 (nb : Nat) := depsG_get hd 9 (by kernel_rfl)
                  have h13 : val 13 = .int .i64 (lowb lo : Nat) := depsG_get hd 13 (by kernel_rfl)
                  refine gdoes2_call (f := 21) (args := #[.slice ao m cp, .int .i64 (na : Nat), .int .i64 (nb : Nat), .int .i64 (lowb lo : Nat)]) ?_ (find_is ao cp m f (na : Nat) (nb : Nat) (lowb lo : Nat) V (L5.out.later (BX.out.2.trans (hg.mono BX.out.2.size))) (by omega)) ?_
                  · simp [execOp, Act.eval, go_sem, resolve, invoke, h0, h5, h9, h13]
                  · rintro e w' ⟨x, ok, rfl, hx, hb3⟩
                    have hbv : Below V.heap.size V w' := hb3
                    refine ⟨_, rfl, ⟨x, ok, rfl, hx⟩, hg.trans (hb3.mono hg.size), fun j hj hr => ?_⟩
                    match j, hj, hr with
                    | 0, hj, hr => exact hr
                    | 1, hj, hr => exact hr
                    | 2, hj, hr => exact hr
                    | 3, hj, hr => exact hr
                    | 4, hj, hr => exact hr
                    | 5, hj, hr => exact hr
                    | 6, hj, hr => exact hr
                    | 7, hj, hr => exact hr
                    | 8, hj, hr => exact hr
                    | 9, hj, hr => exact hr
                    | 10, hj, hr => exact hr
                    | 11, hj, hr => exact hr
                    | 12, hj, hr => exact hr
                    | 13, hj, hr => exact hr
                    | 14, hj, hr => exact hr
                    | 15, hj, hr => exact hr
                    | 16, hj, hr => exact hr
                    | 17, hj, hr => exact hr
                    | 18, hj, hr => exact (let ⟨p, e, hp, h1, h2⟩ := hr; ⟨p, e, hp, fun c => (let ⟨x0, hx⟩ := h1 c; ⟨x0, hx.later hbv⟩), fun c => (let ⟨x, ok, hf, hx⟩ := h2 c; ⟨x, ok, hf, hx.later hbv⟩)⟩)
                    | 19, hj, hr => exact hr
                    | 20, hj, hr => exact hr
                    | _ + 21, hj, hr => trivial
                · refine gen_plain2 rfl (fun _ _ => rfl) (fun L val V hc hi hu hg hd => ?_)
                  obtain ⟨x, ok, h9, hx⟩ := depsG_get hd 14 (by kernel_rfl)
                  refine gdoes2_value (v := .tuple #[.agg (encW x).toArray, .bool ok]) ?_ ⟨x, ok, rfl, hx⟩ hg (fun j hj hr => hr)
                  simp [execOp, Act.eval, go_sem, h9]
                · refine gen_plain2 rfl (fun _ _ => rfl) (fun L val V hc hi hu hg hd => ?_)
                  obtain ⟨x, ok, h9, hx⟩ := depsG_get hd 15 (by kernel_rfl)
                  refine gdoes2_value (v := .agg (encW x).toArray) ?_ ⟨x, ok, rfl, hx⟩ hg (fun j hj hr => hr)
                  simp [execOp, Act.eval, go_sem, h9]
                · refine gen_plain2 rfl (fun _ _ => rfl) (fun L val V hc hi hu hg hd => ?_)
                  obtain ⟨x, ok, h9, hx⟩ := depsG_get hd 15 (by kernel_rfl)
                  refine gdoes2_value (v := .bool ok) ?_ ⟨ok, rfl⟩ hg (fun j hj hr => hr)
                  simp [execOp, Act.eval, go_sem, h9]
                · refine gen_plain2 rfl (fun _ _ => rfl) (fun L val V hc hi hu hg hd => ?_)
                  have h19 : L 19 = false := wants_back hc 21 19 18 (by kernel_rfl) hi
                  have hbv : Below V.heap.size V (V.alloc (.cells #[.int .i64 0, .int .i64 0, .int .i64 0, .string ⟨#[]⟩, .int .i64 0, .int .i64 0, .bool false, .bool false] 25)) := below_box V _
                  refine gdoes2_turn (v := .pointer (some ⟨V.heap.size, 0, none⟩)) (w' := V.alloc (.cells #[.int .i64 0, .int .i64 0, .int .i64 0, .string ⟨#[]⟩, .int .i64 0, .int .i64 0, .bool false, .bool false] 25)) ?_ ⟨V.heap.size, rfl, hg.size, fun _ => ⟨_, Bw.made V 0 0 0 ⟨#[]⟩ 0 0 false false 25⟩, fun c => (by rw [show upB L 18 19 = L 19 from rfl, h19] at c; cases c)⟩ (hg.trans (hbv.mono hg.size)) (fun j hj hr => ?_)
                  · simp [execOp, Act.eval, go_sem, Tryz.infoW]
                  · match j, hj, hr with
                    | 0, hj, hr => exact hr
                    | 1, hj, hr => exact hr
                    | 2, hj, hr => exact hr
                    | 3, hj, hr => exact hr
                    | 4, hj, hr => exact hr
                    | 5, hj, hr => exact hr
                    | 6, hj, hr => exact hr
                    | 7, hj, hr => exact hr
                    | 8, hj, hr => exact hr
                    | 9, hj, hr => exact hr
                    | 10, hj, hr => exact hr
                    | 11, hj, hr => exact hr
                    | 12, hj, hr => exact hr
                    | 13, hj, hr => exact hr
                    | 14, hj, hr => exact hr
                    | 15, hj, hr => exact hr
                    | 16, hj, hr => exact hr
                    | 17, hj, hr => exact hr
                    | 18, hj, hr => rw [hi] at hj; cases hj
                    | 19, hj, hr => exact hr
                    | 20, hj, hr => exact hr
                    | _ + 21, hj, hr => trivial
                · refine gen_plain2 rfl (fun _ _ => rfl) (fun L val V hc hi hu hg hd => ?_)
                  obtain ⟨x, ok, h11, hx⟩ := depsG_get hd 16 (by kernel_rfl)
                  obtain ⟨p, h13, hp, h1, h2⟩ := depsG_get hd 18 (by kernel_rfl)
                  obtain ⟨x0, hbw⟩ := h1 hi
                  refine gdoes2_skip (w' := V.setCells p 0 (encW x)) ?_ trivial (below_put p hp _ _ _ hg) (fun j hj hr => ?_)
                  · obtain ⟨y0, y1, y2, y3, y4, y5, y6, y7⟩ := x
                    obtain ⟨z0, z1, z2, z3, z4, z5, z6, z7⟩ := hbw.eight
                    have fr := hbw.2.1
                    simp only [MW.src, MW.dst, MW.lab, MW.key, MW.va, MW.vb, MW.nl, MW.cond] at z0 z1 z2 z3 z4 z5 z6 z7
                    simp [execOp, Act.eval, go_sem, h11, h13, encW, fr, z0, z1, z2, z3, z4, z5, z6, z7]
                    rfl
                  · match j, hj, hr with
                    | 0, hj, hr => exact hr
                    | 1, hj, hr => exact hr
                    | 2, hj, hr => exact hr
                    | 3, hj, hr => exact hr
                    | 4, hj, hr => exact hr
                    | 5, hj, hr => exact hr
                    | 6, hj, hr => exact hr
                    | 7, hj, hr => exact hr
                    | 8, hj, hr => exact hr
                    | 9, hj, hr => exact hr
                    | 10, hj, hr => exact hr
                    | 11, hj, hr => exact hr
                    | 12, hj, hr => exact hr
                    | 13, hj, hr => exact hr
                    | 14, hj, hr => exact hr
                    | 15, hj, hr => exact hr
                    | 16, hj, hr => exact hr
                    | 17, hj, hr => exact hr
                    | 18, hj, hr => exact ⟨p, h13, hp, fun c => (by rw [show upB L 19 19 = true from upB_self L 19] at c; cases c), fun _ => ⟨x, ok, hx, hbw.put x⟩⟩
                    | 19, hj, hr => exact hr
                    | 20, hj, hr => exact hr
                    | _ + 21, hj, hr => trivial
                · refine gen_plain2 rfl (fun _ _ => rfl) (fun L val V hc hi hu hg hd => ?_)
                  obtain ⟨ok, h12⟩ := depsG_get hd 17 (by kernel_rfl)
                  refine gdoes2_value (v := .bool ok) ?_ ⟨ok, rfl⟩ hg (fun j hj hr => hr)
                  simp [execOp, Act.eval, go_sem, h12]
                intro L2 val2 V hL hg hR
                obtain ⟨p2, hv18, hp2, _, hx2⟩ := hR 18 (by decide)
                obtain ⟨x, okx, hfx, hbx⟩ := hx2 (hL 19 (by decide))
                have BV := hid hg
                have BXX := hid hbx
                have FX := hid hfx
                clear hR hx2 hbx hfx hg hp2 p0 p1 r2 wk ix0 ix1 kp wneg hln hlo16 hl16
                dsimp only
                rw [hv18]
                obtain ⟨x0, x1, x2, x3, x4, x5, x6, x7⟩ := x
                obtain ⟨d0, d1, d2, d3, d4, d5, d6, d7⟩ := BXX.out.eight
                simp only [MW.src, MW.dst, MW.lab, MW.key, MW.va, MW.vb, MW.nl, MW.cond] at d0 d1 d2 d3 d4 d5 d6 d7
                generalize val2 20 = y21
                have dz : p2 < V.heap.size := BXX.out.1
                have OV : Hid ((V.alloc (.cells #[.int .i64 x0, .int .i64 x1, .int .i64 x2, .string x3, .int .i64 x4, .int .i64 x5, .bool x6, .bool x7] 25)).ownsRow w5.heap.size 25 8 (.slice ca k cc) k (rowsW G k).flatten) := own_gro (own_gro OX.out (Gro.of_below (P := fun _ => False) BV.out) (fun _ _ h => h)) (Gro.of_below (P := fun _ => False) (below_box V _)) (fun _ _ h => h)
                have B7 : Hid (Below w5.heap.size w5 (V.alloc (.cells #[.int .i64 x0, .int .i64 x1, .int .i64 x2, .string x3, .int .i64 x4, .int .i64 x5, .bool x6, .bool x7] 25))) := by
                  have q1 := BX.out.2.trans (BV.out.mono BX.out.2.size)
                  exact q1.trans ((below_box V _).mono q1.size)
                have LX : Hid (Lw (V.alloc (.cells #[.int .i64 x0, .int .i64 x1, .int .i64 x2, .string x3, .int .i64 x4, .int .i64 x5, .bool x6, .bool x7] 25)) (some ⟨V.heap.size, 0, none⟩) 1 (fun _ => (x0, x1, x2, x3, x4, x5, x6, x7))) := lw_one (Bw.made V x0 x1 x2 x3 x4 x5 x6 x7 25)
                have PN : Hid (PartC f m (gL f m) want oth F T q (k + 1) (fun i => if i < k then G i else (x0, x1, x2, x3, x4, x5, x6, x7))) := fun i hi => by
                  by_cases h1 : i < k
                  · obtain ⟨ok, h2⟩ := PX.out i h1
                    exact ⟨ok, by simpa [h1] using h2⟩
                  · obtain rfl : i = k := by omega
                    refine ⟨okx, ?_⟩
                    have e : labC (gL f m) want oth F T q i = lowb lo := by
                      unfold labC
                      rw [if_neg (by omega), HNA.out, HNB.out, HLB.out, HLO.out]
                    rw [e, HNA.out, HNB.out]
                    simpa using FX.out
                have HK := hid hk
                clear hL hv18 BXX FX BV OX PX hk
                go_wp2_with (at_builtin; refine wpList_append_why _ rfl _ _ rfl w5.heap.size (.slice ca k cc) k (rowsW G k).flatten rfl OV.out _ 1 1 (fun _ => (x0, x1, x2, x3, x4, x5, x6, x7)) rfl LX.out (by intro h; cases h) (by omega) B7.out.size ?_)
                intro v8 w8 hown hgro
                rw [rowsW_snoc] at hown
                have O8 : Hid (w8.ownsRow w5.heap.size 25 8 v8 (k + 1) (rowsW (fun i => if i < k then G i else (x0, x1, x2, x3, x4, x5, x6, x7)) (k + 1)).flatten) := hown
                have B8 : Hid (Below w.heap.size w w8 ∧ Below w5.heap.size w5 w8) := by
                  have q2 := B7.out.trans ((gro_of_grown hgro).below w5.heap.size (fun k' hk' => (own_tag OV.out hk').1) B7.out.size)
                  exact ⟨B5.out.1.trans (q2.mono B5.out.1.size), q2⟩
                clear hown hgro OV B7 LX
                go_wp2_with fail
                go_roundg (q.length + 1 - (k + 1))
                case measure => omega
                case rel => exact ⟨k + 1, fun i => if i < k then G i else (x0, x1, x2, x3, x4, x5, x6, x7), by omega, by have := HK.out; omega, by omega, by go_num, O8.out, PN.out, B8.out⟩
              · have hlti : ¬ (k : Int) + 1 < (q.length : Int) + 2 := by omega
                obtain rfl : q.length + 1 = k := by omega
                have FP : Hid (FindCPost f m (n : Int) c real w (.returned (.tuple #[.slice ca (q.length + 1) cc, .bool true])) wr) := ⟨⟨_, q.length + 1, G, true, rfl, .inr ⟨NBR.out, n, rfl, hn, .inl ⟨rfl, F, T, q, by rw [HW.out, HO.out]; exact FST.out, by rw [HO.out]; exact HBE.out, HQL.out, rfl, by rw [HW.out, HO.out]; exact PX.out⟩⟩, own_low OX.out B5.out.1.size⟩, BX.out.1⟩
                clear OX PX BX
                go_wp2_with fail
                exact bodyPost_ret (v := .tuple #[.slice ca (q.length + 1) cc, .bool true]) (by simp [results, Tryz.results8, go_sem]) rfl FP.out
end Go.Proofs.YtdihbeffomibeaaGreatDoor
