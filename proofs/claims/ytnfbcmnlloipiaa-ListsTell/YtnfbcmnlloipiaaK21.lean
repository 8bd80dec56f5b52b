/-
  Each read begins the trace; the walk of ListsBegin.
  Reports in memory: plain data, how they lie, when two dependencies are the same.
  Equal of dependencies.
  Whether two anomalies are the same: the program's way, and the document's.
  Whether two rows of anomalies are the same: EqualFunc, and the document's way.
  What the program and the document tell of a list, in one form.
-/
import Derived.Test.YtnfbcmnlloipiaaK18
import Derived.Test.YtnfbcmnlloipiaaK1
import Derived.Laws.StructEq
import Derived.Lib.Walk
import Derived.Lib.SmallJoins
import Derived.WalkSpells
import Derived.Deep.RegionHeld3
import Derived.Deep.RegionWith
import Derived.Deep.QuietTactic
import Derived.BigQuiet
import Derived.Test.YtnfbcmnlloipiaaK15
import Derived.Test.YtnfbcmnlloipiaaK12
import Derived.Test.YtnfbcmnlloipiaaK20
namespace Go.Proofs.Ytnfbcmnlloipiaa
set_option linter.unusedVariables false
set_option linter.unusedSimpArgs false
open Go.RowKit Go.Lib Go.Maps Go.Sort
open Tx (MTxn info_parts RowsIn.cells RowCells TxnRow TxnsIn smallL)

/-- Where the trace can be trusted each read begins it. -/
theorem begins_ok {l : List MTxn} {s : ByteArray} (h : okN l s) {r : MRx} (hr : r ∈ rdsN l s (notes l l.length)) : r.2.2.length ≤ (knwN l s (notes l l.length)).ts.length ∧ r.2.2 = (knwN l s (notes l l.length)).ts.take r.2.2.length := by
  refine ⟨long_max hr, ?_⟩
  by_cases c : r.2.2 = (knwN l s (notes l l.length)).ts.take r.2.2.length
  · exact c
  · exfalso
    have hf : findM (knwN l s (notes l l.length)) r.1 r.2.1 r.2.2 4 = some (4, ((knwN l s (notes l l.length)).ti : Int), 0) := if_neg c
    have hm : ((4 : Int), (r.1 : Int), (r.2.1 : Int), ((knwN l s (notes l l.length)).ti : Int), s, (0 : Int)) ∈ anoN l s := by
      unfold anoN anoM uptoA
      refine List.mem_append_left _ (List.mem_append_left _ (List.mem_flatMap.2 ⟨4, by simp, ?_⟩))
      unfold rowA
      refine List.mem_flatMap.2 ⟨r, hr, ?_⟩
      unfold oneA
      rw [hf]
      simp
    have := h.2
    unfold harmB at this
    rw [List.all_eq_true] at this
    exact absurd (this _ hm) (by simp)
/-- What Trace answers, both ways. -/
theorem trace_b (B tb : Nat) (l : List MTxn) (s : ByteArray) (w : World) (h : Made B w tb l) (hs : s.size ≤ maxLen) (hG : Good l) (b : Bool) (hb : b = true ↔ okN l s) : Calls Try.prog 12 #[.pointer (some ⟨tb, 0, none⟩), .string s] w fun e w' => ∃ ta tn tc, e = .returned (.tuple #[.slice ta tn tc, .bool b]) ∧ (b = true → tn = (knwN l s (notes l l.length)).ts.length ∧ IntsIn Any w' (.slice ta tn tc) (knwN l s (notes l l.length)).ts) ∧ Below w.heap.size w w' := by
  cases b with
  | true =>
    refine (trace_yes B tb l s w h hs hG (hb.1 rfl)).mono ?_
    rintro e w' ⟨ta, tc, rfl, hi, hw⟩
    exact ⟨ta, _, tc, rfl, fun _ => ⟨rfl, hi.keep (fun _ _ _ => rfl) (fun _ _ _ => trivial)⟩, hw⟩
  | false =>
    refine (trace_un _ s w (trusted_not B tb l s w h hs hG (fun c => by have := hb.2 c; cases this))).mono ?_
    rintro e w' ⟨rfl, hw⟩
    exact ⟨none, 0, 0, rfl, (fun c => by cases c), hw⟩
theorem rtrace_b (w : World) (v : Value) (l : List MTxn) (s : ByteArray) (h : TxnsIn Any w v l) (hG : Good l) (b : Bool) (hb : b = true ↔ okN l s) : Calls Try.prog 13 #[v, .string s] w fun e w' => ∃ a n c, e = .returned (.tuple #[.slice a n c, .bool b]) ∧ Below w.heap.size w w' := by
  by_cases hT : tellN l s
  · refine (rtrace_yes w v l s h hG hT).mono ?_
    rintro e w' ⟨v', rfl, _, _, ⟨a, n, c, rfl⟩, hw⟩
    have e : harmB (anoN l s) = b := by
      rw [Bool.eq_iff_iff, hb]
      exact ⟨fun c => ⟨hT, c⟩, fun c => c.2⟩
    rw [e]
    exact ⟨a, n, c, rfl, hw⟩
  · refine (rtrace_un w v l s h hG hT).mono ?_
    rintro e w' ⟨rfl, hw⟩
    have e : b = false := by
      cases b with
      | false => rfl
      | true => exact absurd (hb.1 rfl).1 hT
    subst e
    exact ⟨none, 0, 0, rfl, hw⟩
set_option maxHeartbeats 16000000 in
set_option maxRecDepth 100000 in
theorem lbegin_walk (tv : Value) (l0 : List MTxn) (w : World) (ht : TxnsIn Any w tv l0) (hok : ∀ t ∈ l0, ∀ o ∈ t.ops, OpOk o) (hwl : ∀ t ∈ l0, ∀ o ∈ t.ops, ∀ x ∈ o.list, (Lit.int .i64 x).wf = true) :
    Calls Try.prog 4 #[tv] w fun e w' => e = .returned (.bool true) ∧ Below w.heap.size w w' := by
  have HT := hid ht
  have hG0 := small_good hok hwl
  obtain ⟨L, hL⟩ : ∃ L, smallL l0 = L := ⟨_, rfl⟩
  have hlen : L.length ≤ 40 := by rw [← hL]; exact small_len l0
  rw [hL] at hG0
  have HG := hid hG0
  have HL := hid hL
  have hli : (L.length : Int) ≤ 40 := by omega
  clear ht hok hwl hL hG0
  go_enter Try.func4, Try.ntmps4
  go_upto_region 2 with (go_at_call 9; refine (Tx.small_any _ l0 _ HT.out).mono ?_; rintro e w1 ⟨v1, rfl, h1, b1⟩; rw [show smallL l0 = L from HL.out] at h1; have T1 : Hid (TxnsIn Any w1 v1 L) := txns_ins h1; have B1 := hid b1; clear h1 b1)
  obtain ⟨a1, c1, rfl, hc1⟩ := RowsIn.cells T1.out (by omega)
  obtain ⟨_, hrow⟩ := hc1
  have HC := hid hrow
  clear hrow
  go_wp2_with (first
    | (go_at_call 10; refine (tnew_is w1 _ L T1.out HG.out.len HG.out.ten HG.out.ok).mono ?_; rintro e w2 ⟨tb, rfl, hm2, b2⟩; have M2 := hid hm2; have B2 := hid b2; clear hm2 b2)
    | (go_at_call 11; refine (rkeys_is w2 _ L (T1.out.below B2.out) HG.out.len HG.out.ten).mono ?_; rintro e w10 ⟨kv, rfl, hsr, b10⟩; obtain ⟨ka, kc, hkv⟩ := own_slice hsr; subst hkv; have SR := hid hsr; have M10 : Hid (Made w1.heap.size w10 tb L) := M2.out.later b10; have B10 : Hid (Below w1.heap.size w1 w10) := B2.out.trans (b10.mono B2.out.size); clear hsr b10))
  clear M2 B2
  have hkl : (keysN (notes L L.length) []).length ≤ 10000 := Nat.le_trans (keys_len _) HG.out.nlen
  have CO : Hid (∀ W, Below w10.heap.size w10 W → Calls Try.prog 21 #[.pointer (some ⟨tb, 0, none⟩)] W fun e w' => e = .returned (.int .i64 (L.length : Int)) ∧ W = w') := fun W hb => count_is _ W tb L (M10.out.later hb)
  obtain ⟨KN, hKN⟩ : ∃ KN, (keysN (notes L L.length) []).length = KN := ⟨_, rfl⟩
  have KEY : Hid (∀ q, q < KN → ∃ gk s, ka = some ⟨gk, 0, none⟩ ∧ gk < w10.heap.size ∧ w10.cell? ⟨gk, q, none⟩ = some (.string s) ∧ s.size ≤ maxLen) := fun q hq => by
    obtain ⟨gk, c', hv⟩ := own_some SR.out (by omega)
    cases hv
    obtain ⟨s, h1, h2, _⟩ := key_at HG.out SR.out q (by omega)
    exact ⟨gk, s, rfl, World.block_lt_of_cell? _ _ h1, h1, h2⟩
  rw [hKN] at hkl
  rw [show (keysN (notes L L.length) []).length = KN from hKN]
  have hkli : (KN : Int) ≤ 10000 := by omega
  clear hKN SR
  go_loopg [5, 6, 7, 8, 9, 11, 13, 21] KN (fun gg _ _ _ _ _ _ _ i wr => ∃ k : Nat, k ≤ KN ∧ KN - k ≤ gg ∧ i = .int .i64 k ∧ Aside (Below w10.heap.size w10 wr))
  case atStart => exact ⟨0, Nat.zero_le _, by omega, rfl, Below.refl _ _⟩
  case round =>
    obtain ⟨k, hk, hgk, rfl, BR⟩ := hrel
    by_cases hlt : k < KN
    · have hlti : (k : Int) < KN := by omega
      obtain ⟨gk, s, rfl, hgl, hc, hss⟩ := KEY.out k hlt
      have cv := (BR.out.cell (p := ⟨gk, k, none⟩) hgl).trans hc
      have B1R : Hid (Below w1.heap.size w1 wr) := B10.out.trans (BR.out.mono B10.out.size)
      obtain ⟨b, hb⟩ : ∃ b : Bool, b = true ↔ okN L s := by
        by_cases c : okN L s
        · exact ⟨true, ⟨fun _ => c, fun _ => rfl⟩⟩
        · exact ⟨false, ⟨fun e => (by cases e), fun e => absurd e c⟩⟩
      have HB := hid hb
      have TR := hid (trace_b _ tb L s wr (M10.out.later BR.out) hss HG.out b hb)
      have RT : Hid (∀ W, Below w1.heap.size w1 W → Calls Try.prog 13 #[.slice a1 L.length c1, .string s] W fun e w' => ∃ a n c, e = .returned (.tuple #[.slice a n c, .bool b]) ∧ Below W.heap.size W w') := fun W hw => rtrace_b W _ L s (T1.out.below hw) HG.out b hb
      have hbb : (b != b) = false := by cases b <;> rfl
      clear hc hss hb
      go_wp2_with (first
        | (go_at_call 12; refine TR.out.mono ?_; rintro e w11 ⟨ta, tn, tc, rfl, htr, b11⟩; have HTR := hid htr; have B11 := hid (BR.out.trans (b11.mono BR.out.size)); have B11a := hid (B1R.out.trans (b11.mono B1R.out.size)); clear htr b11)
        | (go_at_call 13; refine (RT.out _ B11a.out).mono ?_; rintro e w12 ⟨da, dn, dc, rfl, b12⟩; have B12 := hid (B11.out.trans (b12.mono B11.out.size)); have B12a := hid (B11a.out.trans (b12.mono B11a.out.size)); have B1112 := hid b12; clear b12))
      have TRI : Hid (b = true → tn = (knwN L s (notes L L.length)).ts.length ∧ IntsIn Any w12 (.slice ta tn tc) (knwN L s (notes L L.length)).ts) := fun hb => ⟨(HTR.out hb).1, (HTR.out hb).2.below B1112.out⟩
      clear TR RT HTR B11 B11a B1112 cv BR B1R hbb
      go_loopg [11, 13, 42] L.length (fun gg _ _ i wr => ∃ n : Nat, n ≤ L.length ∧ L.length - n ≤ gg ∧ i = .int .i64 n ∧ Aside (Below w12.heap.size w12 wr))
      case atStart => exact ⟨0, Nat.zero_le _, by omega, rfl, Below.refl _ _⟩
      case round =>
        obtain ⟨n, hn, hgn, rfl, BN⟩ := hrel
        have B1N : Hid (Below w1.heap.size w1 wr) := B12a.out.trans (BN.out.mono B12a.out.size)
        by_cases hnl : n < L.length
        · have hnli : (n : Int) < L.length := by omega
          obtain ⟨xb, xo, cs, hxa, hbl, _, ⟨ov, hcs, hops⟩, hcell⟩ := HC.out n hnl
          subst hxa
          subst hcs
          obtain ⟨oa, oc, hov, hol, hoc⟩ := id hops
          subst hov
          have hmem : L.getD n default ∈ L := getD_mem L n hnl
          have d0 := (B1N.out.cell (p := ⟨xb, xo + n * 5 + 0, none⟩) hbl).trans (hcell 0 _ rfl)
          have d1 := (B1N.out.cell (p := ⟨xb, xo + n * 5 + 1, none⟩) hbl).trans (hcell 1 _ rfl)
          have d2 := (B1N.out.cell (p := ⟨xb, xo + n * 5 + 2, none⟩) hbl).trans (hcell 2 _ rfl)
          have d3 := (B1N.out.cell (p := ⟨xb, xo + n * 5 + 3, none⟩) hbl).trans (hcell 3 _ rfl)
          have d4 := (B1N.out.cell (p := ⟨xb, xo + n * 5 + 4, none⟩) hbl).trans (hcell 4 _ rfl)
          rw [Nat.add_zero] at d0
          have hten : (L.getD n default).ops.length ≤ 10 := HG.out.ten _ hmem
          have HOC := hid hoc
          obtain ⟨st, hst⟩ : ∃ st, (L.getD n default).state = st := ⟨_, rfl⟩
          have HST := hid hst
          rw [hst] at d1
          obtain ⟨T, hT⟩ : ∃ T, (L.getD n default).ops = T := ⟨_, rfl⟩
          have HTT := hid hT
          rw [hT] at d4 hten HOC
          generalize (L.getD n default).proc = xp at d0
          generalize (L.getD n default).since = xf at d2
          generalize (L.getD n default).till = xt at d3
          have hTi : (T.length : Int) ≤ 10 := by omega
          clear hcell hops hoc hmem hT hst
          go_wp2_with fail
          have X3 : Hid ((wr.alloc (.cells #[.int .i64 xp, .int .i64 st, .int .i64 xf, .int .i64 xt, .slice oa T.length oc] 47)).cell? ⟨wr.heap.size, 1, none⟩ = some (.int .i64 st)) := new_cells wr _ 47 1
          have B3 : Hid (Below w12.heap.size w12 (wr.alloc (.cells #[.int .i64 xp, .int .i64 st, .int .i64 xf, .int .i64 xt, .slice oa T.length oc] 47))) := BN.out.trans ((below_box wr _).mono BN.out.size)
          clear d0 d1 d2 d3 d4 BN B1N
          generalize wr.alloc (.cells #[.int .i64 xp, .int .i64 st, .int .i64 xf, .int .i64 xt, .slice oa T.length oc] 47) = W3 at *
          generalize wr.heap.size = pb at *
          go_loopg [13, 49] T.length (fun gg _ i wi => ∃ j : Nat, j ≤ T.length ∧ T.length - j ≤ gg ∧ i = .int .i64 j ∧ Aside (Below W3.heap.size W3 wi))
          case atStart => exact ⟨0, Nat.zero_le _, by omega, rfl, Below.refl _ _⟩
          case round =>
            obtain ⟨j, hj, hgj, rfl, BJ⟩ := hrel
            have B12J : Hid (Below w12.heap.size w12 wr) := B3.out.trans (BJ.out.mono B3.out.size)
            have B1J : Hid (Below w1.heap.size w1 wr) := B12a.out.trans (B12J.out.mono B12a.out.size)
            by_cases hjl : j < T.length
            · have hjli : (j : Int) < T.length := by omega
              obtain ⟨ob, oo, rfl, _, hcs⟩ := HOC.out (by omega)
              obtain ⟨cs, _, ⟨lv, hcse, hli2⟩, hcell⟩ := hcs j hjl
              subst hcse
              obtain ⟨la, lc, rfl, _⟩ := id hli2
              have hobl := World.block_lt_of_cell? _ _ (hcell 0 _ rfl)
              have x0 := (B1J.out.cell (p := ⟨ob, oo + j * 6 + 0, none⟩) hobl).trans (hcell 0 _ rfl)
              have x1 := (B1J.out.cell (p := ⟨ob, oo + j * 6 + 1, none⟩) hobl).trans (hcell 1 _ rfl)
              have x2 := (B1J.out.cell (p := ⟨ob, oo + j * 6 + 2, none⟩) hobl).trans (hcell 2 _ rfl)
              have x3 := (B1J.out.cell (p := ⟨ob, oo + j * 6 + 3, none⟩) hobl).trans (hcell 3 _ rfl)
              have x4 := (B1J.out.cell (p := ⟨ob, oo + j * 6 + 4, none⟩) hobl).trans (hcell 4 _ rfl)
              have x5 := (B1J.out.cell (p := ⟨ob, oo + j * 6 + 5, none⟩) hobl).trans (hcell 5 _ rfl)
              rw [Nat.add_zero] at x0
              have cst : wr.cell? ⟨pb, 1, none⟩ = some (.int .i64 st) := (BJ.out.cell (p := ⟨pb, 1, none⟩) (World.block_lt_of_cell? _ _ X3.out)).trans X3.out
              have xa : ∀ o, (wr.alloc o).cell? ⟨pb, 1, none⟩ = some (.int .i64 st) := fun o => Lib.cell?_alloc_some _ cst
              have hpl : pb < wr.heap.size := World.block_lt_of_cell? _ _ cst
              have hne : ¬ (pb = wr.heap.size) := by omega
              have BGN : Hid (b = true → isRd s st (T.getD j default) = true → (T.getD j default).list.length ≤ 100000 → ∀ o, Calls Try.prog 22 #[.slice la (T.getD j default).list.length lc, .slice ta tn tc] (wr.alloc o) fun e w' => e = .returned (.bool true) ∧ Below (wr.alloc o).heap.size (wr.alloc o) w') := fun hb hrd hol o => by
                obtain ⟨e1, e2⟩ := TRI.out hb
                have hmr : (n, j, (T.getD j default).list) ∈ rdsN L s (notes L L.length) := by
                  have hm := notes_mem L n j (by rw [HTT.out]; exact hjl) L.length hnl
                  rw [HTT.out] at hm
                  unfold rdsN
                  refine List.mem_map.2 ⟨_, List.mem_filter.2 ⟨hm, ?_⟩, rfl⟩
                  show isRd s (L.getD n default).state (T.getD j default) = true
                  rw [HST.out]
                  exact hrd
                obtain ⟨f1, f2⟩ := begins_ok (HB.out.1 hb) hmr
                have BA : Below w12.heap.size w12 (wr.alloc o) := B12J.out.trans ((below_box wr o).mono B12J.out.size)
                have BA1 : Below w1.heap.size w1 (wr.alloc o) := B1J.out.trans ((below_box wr o).mono B1J.out.size)
                rw [e1] at e2 ⊢
                have q := begins_is la ta lc tc _ _ (wr.alloc o) (hli2.below BA1) (e2.below BA) hol HG.out.trace.2
                rw [decide_eq_true ⟨f1, f2⟩] at q
                exact q
              have hol : (T.getD j default).list.length ≤ 100000 := by
                have := HG.out.sz _ (getD_mem L n hnl) (T.getD j default) (by rw [HTT.out]; exact getD_mem T j hjl)
                exact this
              have HOLL := hid hol
              clear hcell hcs hli2 hol
              generalize T.getD j default = O at *
              obtain ⟨ok, os, ov, ol, oh, on⟩ := O
              simp only [MOp.kind, MOp.key, MOp.value, MOp.list, MOp.has, MOp.nl] at x0 x1 x2 x3 x4 x5 BGN HOLL
              have BNX : ∀ o, Hid (Below W3.heap.size W3 (wr.alloc o)) := fun o => BJ.out.trans ((below_box wr o).mono BJ.out.size)
              cases b with
              | false =>
                clear BGN
                go_wp2_with fail
                go_roundg (T.length - (j + 1))
                case measure => omega
                case rel => exact ⟨j + 1, by omega, by omega, by go_num, (BNX _).out⟩
              | true =>
                by_cases h1 : st = 1
                · subst h1
                  by_cases h2 : ok = 2
                  · subst h2
                    cases oh with
                    | false =>
                      clear BGN
                      go_wp2_with fail
                      go_roundg (T.length - (j + 1))
                      case measure => omega
                      case rel => exact ⟨j + 1, by omega, by omega, by go_num, (BNX _).out⟩
                    | true =>
                      by_cases hks : os = s
                      · subst os
                        have hkb : (s.toList == s.toList) = true := by simp
                        have BG := hid (BGN.out rfl (by simp [isRd, MOp.key, MOp.kind, MOp.has]) HOLL.out)
                        clear BGN
                        go_wp2_with (go_at_call 22; refine (BG.out _).mono ?_; rintro e w6 ⟨rfl, b6⟩; have B6 := hid b6; clear b6)
                        go_roundg (T.length - (j + 1))
                        case measure => omega
                        case rel => exact ⟨j + 1, by omega, by omega, by go_num, (BNX _).out.trans (B6.out.mono (BNX _).out.size)⟩
                      · have hkb : (os.toList == s.toList) = false := by
                          cases hc : (os.toList == s.toList) with
                          | false => rfl
                          | true => exact absurd (cond_ws ▸ hc) hks
                        clear BGN
                        go_wp2_with fail
                        go_roundg (T.length - (j + 1))
                        case measure => omega
                        case rel => exact ⟨j + 1, by omega, by omega, by go_num, (BNX _).out⟩
                  · have h2b : (ok == (2 : Int)) = false := by simpa using h2
                    clear BGN
                    go_wp2_with fail
                    go_roundg (T.length - (j + 1))
                    case measure => omega
                    case rel => exact ⟨j + 1, by omega, by omega, by go_num, (BNX _).out⟩
                · have h1b : (st == (1 : Int)) = false := by simpa using h1
                  clear BGN
                  go_wp2_with fail
                  go_roundg (T.length - (j + 1))
                  case measure => omega
                  case rel => exact ⟨j + 1, by omega, by omega, by go_num, (BNX _).out⟩
            · have hje : j = T.length := by omega
              have hjli : ¬ (j : Int) < T.length := by omega
              go_wp2_with fail
              go_roundg (L.length - (n + 1))
              case measure => omega
              case rel => exact ⟨n + 1, by omega, by omega, by go_num, B12J.out⟩
        · have hne : n = L.length := by omega
          have hnli : ¬ (n : Int) < L.length := by omega
          go_wp2_with fail
          go_roundg (KN - (k + 1))
          case measure => omega
          case rel => exact ⟨k + 1, by omega, by omega, by go_num, B12.out.trans (BN.out.mono B12.out.size)⟩
    · have hke : k = KN := by omega
      have hlti : ¬ (k : Int) < KN := by omega
      have hce : ((L.length : Int) == (L.length : Int)) = true := by simp
      go_wp2_with (go_at_call 21; refine (CO.out _ BR.out).mono ?_; rintro e w11 ⟨rfl, rfl⟩)
      go_ret
      have B10w : Below w.heap.size w w10 := B1.out.trans (B10.out.mono B1.out.size)
      exact ⟨rfl, B10w.trans (BR.out.mono B10w.size)⟩
end Go.Proofs.Ytnfbcmnlloipiaa
namespace Go.Proofs.Ytnfbcmnlloipiaa
set_option linter.unusedVariables false
set_option linter.unusedSimpArgs false
open Go.RowKit
open Tx (RowsIn.cells RowCells)

/-- A dependency, plain. -/
abbrev MW := Int × Int × Int × ByteArray × Int × Int × Bool × Bool
def encW (x : MW) : List Value := [.int .i64 x.1, .int .i64 x.2.1, .int .i64 x.2.2.1, .string x.2.2.2.1, .int .i64 x.2.2.2.2.1, .int .i64 x.2.2.2.2.2.1, .bool x.2.2.2.2.2.2.1, .bool x.2.2.2.2.2.2.2]
/-- An anomaly, plain: kind, txn, op, other, key, value, cycle, real, level. -/
abbrev MA := Int × Int × Int × Int × ByteArray × Int × List MW × Bool × Int
/-- A report, plain: txns, unique, anomalies, level, answer, order. -/
abbrev MR := Int × Bool × List MA × Int × Int × List Int
abbrev All (_ : Nat) : Prop := True
def WhysIn (w : World) (v : Value) (l : List MW) : Prop := RowsIn 8 64 (fun cs x => cs = encW x) All w v l
def encA (a : MA) (cv : Value) : List Value := [.int .i64 a.1, .int .i64 a.2.1, .int .i64 a.2.2.1, .int .i64 a.2.2.2.1, .string a.2.2.2.2.1, .int .i64 a.2.2.2.2.2.1, cv, .bool a.2.2.2.2.2.2.2.1, .int .i64 a.2.2.2.2.2.2.2.2]
abbrev MA.cyc (a : MA) : List MW := a.2.2.2.2.2.2.1
def AnRow (w : World) (cs : List Value) (a : MA) : Prop := ∃ cv, cs = encA a cv ∧ WhysIn w cv a.cyc
def AnsIn (w : World) (v : Value) (l : List MA) : Prop := RowsIn 9 96 (AnRow w) All w v l
def encR (r : MR) (av ov : Value) : Array Value := #[.int .i64 r.1, .bool r.2.1, av, .int .i64 r.2.2.2.1, .int .i64 r.2.2.2.2.1, ov]
def RepIn (w : World) (v : Value) (r : MR) : Prop := ∃ av ov, v = .agg (encR r av ov) ∧ AnsIn w av r.2.2.1 ∧ IntsIn All w ov r.2.2.2.2.2
theorem rows_later {α : Type} [Inhabited α] {k bytes : Nat} {R R' : List Value → α → Prop} {w w' : World} {v : Value} {l : List α} (h : RowsIn k bytes R All w v l) (hk : 0 < k) (hb : Below w.heap.size w w') (hR : ∀ cs a, R cs a → R' cs a) : RowsIn k bytes R' All w' v l := by
  obtain ⟨ao, c, hv, hl, hc⟩ := h
  refine ⟨ao, c, hv, hl, fun h0 => ?_⟩
  obtain ⟨b, off, e1, e2, hj⟩ := hc h0
  refine ⟨b, off, e1, e2, fun j hlt => ?_⟩
  obtain ⟨cs, q1, q2, q3⟩ := hj j hlt
  exact ⟨cs, q1, hR _ _ q2, fun i u hu => (hb.cell (World.block_lt_of_cell? _ _ (q3 i u hu))).trans (q3 i u hu)⟩
theorem WhysIn.later {w w' : World} {v : Value} {l : List MW} (h : WhysIn w v l) (hb : Below w.heap.size w w') : WhysIn w' v l := rows_later h (by omega) hb (fun _ _ h => h)
theorem AnsIn.later {w w' : World} {v : Value} {l : List MA} (h : AnsIn w v l) (hb : Below w.heap.size w w') : AnsIn w' v l := rows_later h (by omega) hb (fun _ _ ⟨cv, h1, h2⟩ => ⟨cv, h1, h2.later hb⟩)
theorem IntsIn.laterB {w w' : World} {v : Value} {l : List Int} (h : IntsIn All w v l) (hb : Below w.heap.size w w') : IntsIn All w' v l := by
  obtain ⟨ao, c, hv, hl, hc⟩ := h
  refine ⟨ao, c, hv, hl, fun h0 => ?_⟩
  obtain ⟨b, off, e1, e2, hj⟩ := hc h0
  exact ⟨b, off, e1, e2, fun j hlt => (hb.cell (World.block_lt_of_cell? _ _ (hj j hlt))).trans (hj j hlt)⟩
theorem RepIn.later {w w' : World} {v : Value} {r : MR} (h : RepIn w v r) (hb : Below w.heap.size w w') : RepIn w' v r := by
  obtain ⟨av, ov, hv, h1, h2⟩ := h
  exact ⟨av, ov, hv, h1.later hb, h2.laterB hb⟩

/-- Whether two dependencies are the same. -/
def wEq (x y : MW) : Bool := x.1 == y.1 && (x.2.1 == y.2.1 && (x.2.2.1 == y.2.2.1 && (x.2.2.2.1.toList == y.2.2.2.1.toList && (x.2.2.2.2.1 == y.2.2.2.2.1 && (x.2.2.2.2.2.1 == y.2.2.2.2.2.1 && (x.2.2.2.2.2.2.1 == y.2.2.2.2.2.2.1 && x.2.2.2.2.2.2.2 == y.2.2.2.2.2.2.2))))))
def whysEq (xs ys : List MW) : Bool := allEq wEq xs ys
/-- Whether two anomalies are the same. -/
def aEq (a b : MA) : Bool := a.1 == b.1 && (a.2.1 == b.2.1 && (a.2.2.1 == b.2.2.1 && (a.2.2.2.1 == b.2.2.2.1 && (a.2.2.2.2.1.toList == b.2.2.2.2.1.toList && (a.2.2.2.2.2.1 == b.2.2.2.2.2.1 && (a.2.2.2.2.2.2.2.1 == b.2.2.2.2.2.2.2.1 && (a.2.2.2.2.2.2.2.2 == b.2.2.2.2.2.2.2.2 && whysEq a.cyc b.cyc)))))))
def ansEq (xs ys : List MA) : Bool := allEq aEq xs ys
/-- Whether two reports are the same. -/
def rEq (a b : MR) : Bool := a.1 == b.1 && (a.2.1 == b.2.1 && (a.2.2.2.1 == b.2.2.2.1 && (a.2.2.2.2.1 == b.2.2.2.2.1 && (intsEq a.2.2.2.2.2 b.2.2.2.2.2 && ansEq a.2.2.1 b.2.2.1))))
theorem wEq_refl (x : MW) : wEq x x = true := by simp [wEq]
theorem wEq_symm (x y : MW) : wEq x y = wEq y x := by
  unfold wEq; rw [beq_sw x.1, beq_sw x.2.1, beq_sw x.2.2.1, beq_sw x.2.2.2.1.toList, beq_sw x.2.2.2.2.1, beq_sw x.2.2.2.2.2.1, beq_sw x.2.2.2.2.2.2.1, beq_sw x.2.2.2.2.2.2.2]
theorem aEq_refl (x : MA) : aEq x x = true := by simp [aEq, whysEq, allEq_refl _ wEq_refl]
theorem aEq_symm (x y : MA) : aEq x y = aEq y x := by
  unfold aEq whysEq; rw [beq_sw x.1, beq_sw x.2.1, beq_sw x.2.2.1, beq_sw x.2.2.2.1, beq_sw x.2.2.2.2.1.toList, beq_sw x.2.2.2.2.2.1, beq_sw x.2.2.2.2.2.2.2.1, beq_sw x.2.2.2.2.2.2.2.2, allEq_symm _ wEq_symm]
theorem rEq_refl (x : MR) : rEq x x = true := by simp [rEq, ansEq, intsEq_refl, allEq_refl _ aEq_refl]
theorem rEq_symm (x y : MR) : rEq x y = rEq y x := by
  unfold rEq ansEq; rw [beq_sw x.1, beq_sw x.2.1, beq_sw x.2.2.2.1, beq_sw x.2.2.2.2.1, intsEq_symm, allEq_symm _ aEq_symm]

set_option maxHeartbeats 2000000 in
set_option maxRecDepth 100000 in
theorem neq_why (x y : MW) (w : World) : (binOp .neq 40 (.agg (encW x).toArray) (.agg (encW y).toArray)).run Try.prog w = .ok (.bool (!wEq x y)) w := by
  obtain ⟨x1, x2, x3, x4, x5, x6, x7, x8⟩ := x
  obtain ⟨y1, y2, y3, y4, y5, y6, y7, y8⟩ := y
  simp only [encW, wEq]
  generalize h1 : (x1 == y1) = b1
  generalize h2 : (x2 == y2) = b2
  generalize h3 : (x3 == y3) = b3
  generalize h4 : (x4.toList == y4.toList) = b4
  generalize h5 : (x5 == y5) = b5
  generalize h6 : (x6 == y6) = b6
  generalize h7 : (x7 == y7) = b7
  generalize h8 : (x8 == y8) = b8
  cases b1
  · simp [go_sem, h1]
  cases b2
  · simp [go_sem, h1, h2]
  cases b3
  · simp [go_sem, h1, h2, h3]
  cases b4
  · simp [go_sem, h1, h2, h3, h4]
  cases b5
  · simp [go_sem, h1, h2, h3, h4, h5]
  cases b6
  · simp [go_sem, h1, h2, h3, h4, h5, h6]
  cases b7
  · simp [go_sem, h1, h2, h3, h4, h5, h6, h7]
  cases b8
  · simp [go_sem, h1, h2, h3, h4, h5, h6, h7, h8]
  simp [go_sem, h1, h2, h3, h4, h5, h6, h7, h8]
end Go.Proofs.Ytnfbcmnlloipiaa
namespace Go.Proofs.Ytnfbcmnlloipiaa
set_option linter.unusedVariables false
set_option linter.unusedSimpArgs false
open Go.RowKit Go.Lib

open Tx (RowsIn.cells RowCells)
abbrev WCells (w : World) (ao : Option Addr) (l : List MW) (n : Nat) : Prop := RowCells 8 (fun cs x => cs = encW x) w ao l n
set_option maxHeartbeats 2000000 in
set_option maxRecDepth 100000 in
theorem eqWhy_walk (a1 a2 : Option Addr) (c1 c2 n : Nat) (xs ys : List MW) (w : World) (hx : xs.length = n) (hy : ys.length = n) (_hbig : n ≤ 9223372036854775807)
    (h1 : WCells w a1 xs n) (h2 : WCells w a2 ys n) :
    Calls Try.prog 18 #[.slice a1 n c1, .slice a2 n c2] w fun e w' => e = .returned (.bool (whysEq xs ys)) ∧ ∃ q, w' = w.drewN q := by
  have HX : Hid (xs.length = n) := hx
  have HY : Hid (ys.length = n) := hy
  have H1 := hid h1
  have H2 := hid h2
  clear hx hy h1 h2
  go_enter Try.func18, Try.ntmps18
  go_wp2
  go_loopg [5, 13] n (fun g _ i wr => ∃ k : Nat, k ≤ n ∧ n - k ≤ g ∧ i = .int .i64 k ∧ Aside (∃ q, wr = w.drewN q) ∧ Aside (∀ j, j < k → wEq (xs.getD j default) (ys.getD j default) = true))
  case atStart => exact ⟨0, Nat.zero_le _, by omega, rfl, ⟨0, rfl⟩, fun j hj => absurd hj (Nat.not_lt_zero _)⟩
  case round =>
    obtain ⟨k, hk, hg, rfl, ⟨q, rfl⟩, A⟩ := hrel
    by_cases hlt : k < n
    · have hlti : (k : Int) < (n : Int) := by omega
      obtain ⟨b1, o1, cs1, rfl, hb1, -, e1, hca⟩ := H1.out k hlt
      obtain ⟨b2, o2, cs2, rfl, hb2, -, e2, hcb⟩ := H2.out k hlt
      generalize hX : xs.getD k default = X at e1
      generalize hY : ys.getD k default = Y at e2
      have HX' : Hid (xs.getD k default = X) := hX
      have HY' : Hid (ys.getD k default = Y) := hY
      clear hX hY
      have hn := fun w => neq_why X Y w
      obtain ⟨Q, hQ⟩ : ∃ Q, Q = wEq X Y := ⟨_, rfl⟩
      have HQ : Hid (wEq X Y = Q) := hQ.symm
      rw [← hQ] at hn
      clear hQ
      obtain ⟨x1, x2, x3, x4, x5, x6, x7, x8⟩ := X
      obtain ⟨y1, y2, y3, y4, y5, y6, y7, y8⟩ := Y
      simp only [encW] at e1 e2 hn
      subst e1 e2
      have a0 := hca 0 _ rfl
      have a1 := hca 1 _ rfl
      have a2 := hca 2 _ rfl
      have a3 := hca 3 _ rfl
      have a4 := hca 4 _ rfl
      have a5 := hca 5 _ rfl
      have a6 := hca 6 _ rfl
      have a7 := hca 7 _ rfl
      rw [Nat.add_zero] at a0
      have b0 := hcb 0 _ rfl
      have b1 := hcb 1 _ rfl
      have b2 := hcb 2 _ rfl
      have b3 := hcb 3 _ rfl
      have b4 := hcb 4 _ rfl
      have b5 := hcb 5 _ rfl
      have b6 := hcb 6 _ rfl
      have b7 := hcb 7 _ rfl
      rw [Nat.add_zero] at b0
      clear hca hcb
      cases Q with
      | true =>
        simp only [Bool.not_true] at hn
        go_wp2
        go_quiet (fail)
        go_wp2
        go_roundg (n - (k + 1))
        case measure => omega
        case rel =>
          refine ⟨k + 1, by omega, by omega, by go_num, ⟨_, rfl⟩, (show Aside _ from fun j hj => ?_)⟩
          by_cases e : j = k
          · subst e; rw [HX'.out, HY'.out]; exact HQ.out
          · exact A.out j (by omega)
      | false =>
        simp only [Bool.not_false] at hn
        go_wp2
        go_quiet (fail)
        go_wp2
        go_ret
        refine ⟨?_, ⟨_, drew_drew _ _ _⟩⟩
        rw [show whysEq xs ys = false from allEq_miss _ xs ys k (by rw [HX.out]; exact hlt) (by rw [HX'.out, HY'.out]; exact HQ.out)]
        rfl
    · go_wp2
      go_ret
      refine ⟨?_, ⟨_, rfl⟩⟩
      rw [show whysEq xs ys = true from allEq_hit _ xs ys (by rw [HX.out, HY.out]) (fun j hj => A.out j (by rw [HX.out] at hj; omega))]
      rfl
theorem eqWhy_lens (a1 a2 : Option Addr) (c1 c2 n m : Nat) (w : World) (hnm : n ≠ m) :
    Calls Try.prog 18 #[.slice a1 n c1, .slice a2 m c2] w fun e w' => e = .returned (.bool false) ∧ ∃ q, w' = w.drewN q := by
  have hne : ((n : Int) != (m : Int)) = true := by rw [bne_iff_ne]; omega
  go_enter Try.func18, Try.ntmps18
  go_wp2
  go_ret
  exact ⟨rfl, 0, rfl⟩
theorem below_dr {w w' : World} {q : Nat} (h : w' = w.drewN q) : Below w.heap.size w w' := by rw [h]; exact ⟨rfl, rfl, rfl, Nat.le_refl _, fun _ _ => rfl⟩
/-- Equal of dependencies. -/
theorem eqWhy_any (v u : Value) (xs ys : List MW) (w : World) (h1 : WhysIn w v xs) (h2 : WhysIn w u ys) :
    Calls Try.prog 18 #[v, u] w fun e w' => e = .returned (.bool (whysEq xs ys)) ∧ Below w.heap.size w w' := by
  obtain ⟨a1, c1, rfl, l1, k1⟩ := RowsIn.cells h1 (by omega)
  obtain ⟨a2, c2, rfl, l2, k2⟩ := RowsIn.cells h2 (by omega)
  by_cases h : xs.length = ys.length
  · rw [← h] at k2 ⊢
    exact (eqWhy_walk a1 a2 c1 c2 xs.length xs ys w rfl h.symm (by omega) k1 k2).mono fun e w' ⟨he, q, hq⟩ => ⟨he, below_dr hq⟩
  · rw [show whysEq xs ys = false from allEq_len _ xs ys h]
    exact (eqWhy_lens a1 a2 c1 c2 _ _ w h).mono fun e w' ⟨he, q, hq⟩ => ⟨he, below_dr hq⟩
end Go.Proofs.Ytnfbcmnlloipiaa
namespace Go.Proofs.Ytnfbcmnlloipiaa
set_option linter.unusedVariables false
set_option linter.unusedSimpArgs false
open Go.RowKit Go.Lib
open Tx (RowsIn.cells RowCells)

theorem below_2 (w : World) (x y : Obj) : Below w.heap.size w ((w.alloc x).alloc y) := ((Below.refl _ _).alloc (Nat.le_refl _) _).alloc (by show _ ≤ (w.heap.push _).size; simp) _

set_option maxHeartbeats 8000000 in
set_option maxRecDepth 100000 in
theorem sameAn_is (a b : MA) (cv dv : Value) (w : World) (ha : WhysIn w cv a.cyc) (hb : WhysIn w dv b.cyc) :
    Calls Try.prog 40 #[.agg (encA a cv).toArray, .agg (encA b dv).toArray] w fun e w' => e = .returned (.bool (aEq a b)) ∧ Below w.heap.size w w' := by
  obtain ⟨a1, a2, a3, a4, a5, a6, ac, a8, a9⟩ := a
  obtain ⟨b1, b2, b3, b4, b5, b6, bc, b8, b9⟩ := b
  simp only [MA.cyc] at ha hb
  obtain ⟨pa, pc, rfl, pl, pk⟩ := RowsIn.cells ha (by omega)
  obtain ⟨qa, qc, rfl, ql, qk⟩ := RowsIn.cells hb (by omega)
  have HA := hid ha
  have HB := hid hb
  have PK := hid pk
  have QK := hid qk
  clear ha hb pk qk
  simp only [encA]
  cases h0 : (a1 == b1)
  · have HF : aEq (a1, a2, a3, a4, a5, a6, ac, a8, a9) (b1, b2, b3, b4, b5, b6, bc, b8, b9) = false := by simp only [aEq, h0, Bool.false_and, Bool.true_and, Bool.and_false]
    rw [HF]
    clear HF
    go_enter Try.func40, Try.ntmps40
    go_wp2
    go_ret
    exact ⟨rfl, below_2 _ _ _⟩
  cases h1 : (a2 == b2)
  · have HF : aEq (a1, a2, a3, a4, a5, a6, ac, a8, a9) (b1, b2, b3, b4, b5, b6, bc, b8, b9) = false := by simp only [aEq, h0, h1, Bool.false_and, Bool.true_and, Bool.and_false]
    rw [HF]
    clear HF
    go_enter Try.func40, Try.ntmps40
    go_wp2
    go_ret
    exact ⟨rfl, below_2 _ _ _⟩
  cases h2 : (a3 == b3)
  · have HF : aEq (a1, a2, a3, a4, a5, a6, ac, a8, a9) (b1, b2, b3, b4, b5, b6, bc, b8, b9) = false := by simp only [aEq, h0, h1, h2, Bool.false_and, Bool.true_and, Bool.and_false]
    rw [HF]
    clear HF
    go_enter Try.func40, Try.ntmps40
    go_wp2
    go_ret
    exact ⟨rfl, below_2 _ _ _⟩
  cases h3 : (a4 == b4)
  · have HF : aEq (a1, a2, a3, a4, a5, a6, ac, a8, a9) (b1, b2, b3, b4, b5, b6, bc, b8, b9) = false := by simp only [aEq, h0, h1, h2, h3, Bool.false_and, Bool.true_and, Bool.and_false]
    rw [HF]
    clear HF
    go_enter Try.func40, Try.ntmps40
    go_wp2
    go_ret
    exact ⟨rfl, below_2 _ _ _⟩
  cases h4 : (a5.toList == b5.toList)
  · have HF : aEq (a1, a2, a3, a4, a5, a6, ac, a8, a9) (b1, b2, b3, b4, b5, b6, bc, b8, b9) = false := by simp only [aEq, h0, h1, h2, h3, h4, Bool.false_and, Bool.true_and, Bool.and_false]
    rw [HF]
    clear HF
    go_enter Try.func40, Try.ntmps40
    go_wp2
    go_ret
    exact ⟨rfl, below_2 _ _ _⟩
  cases h5 : (a6 == b6)
  · have HF : aEq (a1, a2, a3, a4, a5, a6, ac, a8, a9) (b1, b2, b3, b4, b5, b6, bc, b8, b9) = false := by simp only [aEq, h0, h1, h2, h3, h4, h5, Bool.false_and, Bool.true_and, Bool.and_false]
    rw [HF]
    clear HF
    go_enter Try.func40, Try.ntmps40
    go_wp2
    go_ret
    exact ⟨rfl, below_2 _ _ _⟩
  cases h6 : (a8 == b8)
  · have HF : aEq (a1, a2, a3, a4, a5, a6, ac, a8, a9) (b1, b2, b3, b4, b5, b6, bc, b8, b9) = false := by simp only [aEq, h0, h1, h2, h3, h4, h5, h6, Bool.false_and, Bool.true_and, Bool.and_false]
    rw [HF]
    clear HF
    go_enter Try.func40, Try.ntmps40
    go_wp2
    go_ret
    exact ⟨rfl, below_2 _ _ _⟩
  cases h7 : (a9 == b9)
  · have HF : aEq (a1, a2, a3, a4, a5, a6, ac, a8, a9) (b1, b2, b3, b4, b5, b6, bc, b8, b9) = false := by simp only [aEq, h0, h1, h2, h3, h4, h5, h6, h7, Bool.false_and, Bool.true_and, Bool.and_false]
    rw [HF]
    clear HF
    go_enter Try.func40, Try.ntmps40
    go_wp2
    go_ret
    exact ⟨rfl, below_2 _ _ _⟩
  have HT : Hid (aEq (a1, a2, a3, a4, a5, a6, ac, a8, a9) (b1, b2, b3, b4, b5, b6, bc, b8, b9) = whysEq ac bc) := by show _ = _; simp only [aEq, h0, h1, h2, h3, h4, h5, h6, h7, Bool.true_and]
  go_enter Try.func40, Try.ntmps40
  go_wp2_with (go_at_call 18; refine (eqWhy_any _ _ ac bc _ (HA.out.later (below_2 _ _ _)) (HB.out.later (below_2 _ _ _))).mono ?_; rintro e w1 ⟨rfl, hb1⟩; have B1 := hid hb1; clear hb1)
  go_ret
  exact ⟨by rw [HT.out]; rfl, (below_2 _ _ _).trans (B1.out.mono (below_2 _ _ _).size)⟩
end Go.Proofs.Ytnfbcmnlloipiaa
namespace Go.Proofs.Ytnfbcmnlloipiaa
set_option linter.unusedVariables false
set_option linter.unusedSimpArgs false
open Go.RowKit Go.Lib
open Tx (RowsIn.cells RowCells)

theorem below_cell {w w' : World} {p : Addr} {x : Value} (hb : Below w.heap.size w w') (h : w.cell? p = some x) : w'.cell? p = some x := (hb.cell (p := p) (World.block_lt_of_cell? _ _ h)).trans h

set_option maxHeartbeats 8000000 in
set_option maxRecDepth 100000 in
theorem eqFA_walk (a1 a2 : Option Addr) (c1 c2 n : Nat) (xs ys : List MA) (w : World) (hx : xs.length = n) (hy : ys.length = n) (hbig : n * 96 ≤ 140737488355328)
    (h1 : RowCells 9 (AnRow w) w a1 xs n) (h2 : RowCells 9 (AnRow w) w a2 ys n) :
    Calls Try.prog 39 #[.slice a1 n c1, .slice a2 n c2, .func (.func 40) #[] #[]] w fun e w' => e = .returned (.bool (ansEq xs ys)) ∧ Below w.heap.size w w' := by
  have HX : Hid (xs.length = n) := hx
  have HY : Hid (ys.length = n) := hy
  have H1 := hid h1
  have H2 := hid h2
  clear hx hy h1 h2
  go_enter Try.func39, Try.ntmps39
  go_wp2
  go_loopg [7, 8, 9, 17] n (fun g _ _ _ i wr => ∃ k : Nat, k ≤ n ∧ n - k ≤ g ∧ i = .int .i64 k ∧ Aside (Below w.heap.size w wr) ∧ Aside (∀ j, j < k → aEq (xs.getD j default) (ys.getD j default) = true))
  case atStart => exact ⟨0, Nat.zero_le _, by omega, rfl, Below.refl _ _, fun j hj => absurd hj (Nat.not_lt_zero _)⟩
  case round =>
    obtain ⟨k, hk, hg, rfl, BK, A⟩ := hrel
    by_cases hlt : k < n
    · have hlti : (k : Int) < (n : Int) := by omega
      have hk0 : (0 : Int) ≤ (k : Int) := by omega
      obtain ⟨g1, o1, cs1, rfl, -, -, ⟨cv, e1, hw1⟩, hca⟩ := H1.out k hlt
      obtain ⟨g2, o2, cs2, rfl, -, -, ⟨dv, e2, hw2⟩, hcb⟩ := H2.out k hlt
      have W1 := hid hw1
      have W2 := hid hw2
      generalize hX : xs.getD k default = X at *
      generalize hY : ys.getD k default = Y at *
      have HX' : Hid (xs.getD k default = X) := hX
      have HY' : Hid (ys.getD k default = Y) := hY
      clear hX hY hw1 hw2
      obtain ⟨Q, hQ⟩ : ∃ Q, aEq X Y = Q := ⟨_, rfl⟩
      have HQ := hid hQ
      clear hQ
      obtain ⟨X1, X2, X3, X4, X5, X6, XC, X8, X9⟩ := X
      obtain ⟨Y1, Y2, Y3, Y4, Y5, Y6, YC, Y8, Y9⟩ := Y
      obtain ⟨pa, pc, hcv, -⟩ := id W1.out
      obtain ⟨qa, qc, hdv, -⟩ := id W2.out
      subst hcv
      subst hdv
      simp only [encA, MA.cyc] at e1 e2
      subst e1 e2
      have u0 := below_cell BK.out (hca 0 _ rfl)
      have u1 := below_cell BK.out (hca 1 _ rfl)
      have u2 := below_cell BK.out (hca 2 _ rfl)
      have u3 := below_cell BK.out (hca 3 _ rfl)
      have u4 := below_cell BK.out (hca 4 _ rfl)
      have u5 := below_cell BK.out (hca 5 _ rfl)
      have u6 := below_cell BK.out (hca 6 _ rfl)
      have u7 := below_cell BK.out (hca 7 _ rfl)
      have u8 := below_cell BK.out (hca 8 _ rfl)
      rw [Nat.add_zero] at u0
      have v0 := below_cell BK.out (hcb 0 _ rfl)
      have v1 := below_cell BK.out (hcb 1 _ rfl)
      have v2 := below_cell BK.out (hcb 2 _ rfl)
      have v3 := below_cell BK.out (hcb 3 _ rfl)
      have v4 := below_cell BK.out (hcb 4 _ rfl)
      have v5 := below_cell BK.out (hcb 5 _ rfl)
      have v6 := below_cell BK.out (hcb 6 _ rfl)
      have v7 := below_cell BK.out (hcb 7 _ rfl)
      have v8 := below_cell BK.out (hcb 8 _ rfl)
      rw [Nat.add_zero] at v0
      clear hca hcb
      have hgl1 : g1 < wr.heap.size := World.block_lt_of_cell? _ _ u0
      have hgl2 : g2 < wr.heap.size := World.block_lt_of_cell? _ _ v0
      have SA : Hid (∀ W, Below wr.heap.size wr W → Calls Try.prog 40 #[(.agg #[.int .i64 X1, .int .i64 X2, .int .i64 X3, .int .i64 X4, .string X5, .int .i64 X6, .slice pa XC.length pc, .bool X8, .int .i64 X9]), (.agg #[.int .i64 Y1, .int .i64 Y2, .int .i64 Y3, .int .i64 Y4, .string Y5, .int .i64 Y6, .slice qa YC.length qc, .bool Y8, .int .i64 Y9])] W fun e w' => e = .returned (.bool Q) ∧ Below W.heap.size W w') := fun W hb => by
        have := sameAn_is (X1, X2, X3, X4, X5, X6, XC, X8, X9) (Y1, Y2, Y3, Y4, Y5, Y6, YC, Y8, Y9) _ _ W (W1.out.later (BK.out.trans (hb.mono BK.out.size))) (W2.out.later (BK.out.trans (hb.mono BK.out.size)))
        rw [HQ.out] at this
        exact this
      cases Q with
      | true =>
        go_wp2_with (go_at_call 40; refine (SA.out _ (below_2 _ _ _)).mono ?_; rintro e w1 ⟨rfl, hb1⟩; have B1 := hid hb1; clear hb1)
        go_roundg (n - (k + 1))
        case measure => omega
        case rel =>
          refine ⟨k + 1, by omega, by omega, by go_num, (BK.out.trans (((below_2 wr _ _).trans (B1.out.mono (below_2 wr _ _).size)).mono BK.out.size)), (show Aside _ from fun j hj => ?_)⟩
          by_cases e : j = k
          · subst e; rw [HX'.out, HY'.out]; exact HQ.out
          · exact A.out j (by omega)
      | false =>
        go_wp2_with (go_at_call 40; refine (SA.out _ (below_2 _ _ _)).mono ?_; rintro e w1 ⟨rfl, hb1⟩; have B1 := hid hb1; clear hb1)
        go_ret
        refine ⟨?_, (BK.out.trans (((below_2 wr _ _).trans (B1.out.mono (below_2 wr _ _).size)).mono BK.out.size))⟩
        rw [show ansEq xs ys = false from allEq_miss _ xs ys k (by rw [HX.out]; exact hlt) (by rw [HX'.out, HY'.out]; exact HQ.out)]
        rfl
    · go_wp2
      go_ret
      refine ⟨?_, BK.out⟩
      rw [show ansEq xs ys = true from allEq_hit _ xs ys (by rw [HX.out, HY.out]) (fun j hj => A.out j (by rw [HX.out] at hj; omega))]
      rfl

theorem eqFA_lens (a1 a2 : Option Addr) (c1 c2 n m : Nat) (w : World) (hnm : n ≠ m) :
    Calls Try.prog 39 #[.slice a1 n c1, .slice a2 m c2, .func (.func 40) #[] #[]] w fun e w' => e = .returned (.bool false) ∧ w' = w := by
  have hne : ((n : Int) != (m : Int)) = true := by rw [bne_iff_ne]; omega
  go_enter Try.func39, Try.ntmps39
  go_wp2
  go_ret
  exact ⟨rfl, rfl⟩
theorem eqFA_any (v u : Value) (xs ys : List MA) (w : World) (h1 : AnsIn w v xs) (h2 : AnsIn w u ys) :
    Calls Try.prog 39 #[v, u, .func (.func 40) #[] #[]] w fun e w' => e = .returned (.bool (ansEq xs ys)) ∧ Below w.heap.size w w' := by
  obtain ⟨a1, c1, rfl, l1, k1⟩ := RowsIn.cells h1 (by omega)
  obtain ⟨a2, c2, rfl, l2, k2⟩ := RowsIn.cells h2 (by omega)
  by_cases h : xs.length = ys.length
  · rw [← h] at k2 ⊢
    exact eqFA_walk a1 a2 c1 c2 xs.length xs ys w rfl h.symm l1.1 k1 k2
  · rw [show ansEq xs ys = false from allEq_len _ xs ys h]
    exact (eqFA_lens a1 a2 c1 c2 _ _ w h).mono fun e w' ⟨he, hw⟩ => ⟨he, by rw [hw]; exact Below.refl _ _⟩
end Go.Proofs.Ytnfbcmnlloipiaa
namespace Go.Proofs.Ytnfbcmnlloipiaa
set_option linter.unusedVariables false
set_option linter.unusedSimpArgs false
open Go.RowKit Go.Lib Go.Maps
open Tx (MTxn info_parts RowsIn.cells RowCells TxnRow TxnsIn)

theorem ints_nil (w : World) : IntsIn Any w (.slice none 0 0) [] := ⟨none, 0, rfl, ⟨by simp, Nat.le_refl _⟩, fun h => absurd h (by simp)⟩
theorem ok_bool (l : List MTxn) (s : ByteArray) : ∃ b : Bool, b = true ↔ okN l s := by
  by_cases c : okN l s
  · exact ⟨true, ⟨fun _ => c, fun _ => rfl⟩⟩
  · exact ⟨false, ⟨fun e => (by cases e), fun e => absurd e c⟩⟩
theorem both_trace (l : List MTxn) (s : ByteArray) (hG : Good l) (hs : s.size ≤ maxLen) : ∃ (ts : List Int) (b : Bool), ts.length ≤ 100000 ∧ (∀ B tb W, Made B W tb l → Calls Try.prog 12 #[.pointer (some ⟨tb, 0, none⟩), .string s] W fun e w' => ∃ v', e = .returned (.tuple #[v', .bool b]) ∧ IntsIn Any w' v' ts ∧ Below W.heap.size W w') ∧ (∀ W v, TxnsIn Any W v l → Calls Try.prog 13 #[v, .string s] W fun e w' => ∃ v', e = .returned (.tuple #[v', .bool b]) ∧ IntsIn Any w' v' ts ∧ Below W.heap.size W w') := by
  obtain ⟨b, hb⟩ := ok_bool l s
  cases b with
  | true =>
    have ho := hb.1 rfl
    refine ⟨_, true, (hG.trace (s := s)).2, fun B tb W h => ?_, fun W v h => ?_⟩
    · refine (trace_yes B tb l s W h hs hG ho).mono ?_
      rintro e w' ⟨ta, tc, rfl, hi, hw⟩
      exact ⟨_, rfl, hi.keep (fun _ _ _ => rfl) (fun _ _ _ => trivial), hw⟩
    · refine (rtrace_yes W v l s h hG ho.1).mono ?_
      rintro e w' ⟨v', rfl, h2, _, _, hw⟩
      rw [ho.2]
      exact ⟨_, rfl, h2 ho.2, hw⟩
  | false =>
    have hn : ¬ okN l s := fun c => by have := hb.2 c; cases this
    refine ⟨[], false, by simp, fun B tb W h => ?_, fun W v h => ?_⟩
    · refine (trace_un _ s W (trusted_not B tb l s W h hs hG hn)).mono ?_
      rintro e w' ⟨rfl, hw⟩
      exact ⟨_, rfl, ints_nil _, hw⟩
    · by_cases hT : tellN l s
      · have hh : harmB (anoN l s) = false := by
          cases hc : harmB (anoN l s) with
          | false => rfl
          | true => exact absurd ⟨hT, hc⟩ hn
        refine (rtrace_yes W v l s h hG hT).mono ?_
        rintro e w' ⟨v', rfl, _, h3, _, hw⟩
        rw [hh]
        have := h3 hh
        subst this
        exact ⟨_, rfl, ints_nil _, hw⟩
      · refine (rtrace_un W v l s h hG hT).mono ?_
        rintro e w' ⟨rfl, hw⟩
        exact ⟨_, rfl, ints_nil _, hw⟩
theorem both_anom (l : List MTxn) (s : ByteArray) (hG : Good l) (hs : s.size ≤ maxLen) : ∃ A : List MAn, A.length ≤ 150000 ∧ (∀ B tb W, Made B W tb l → Calls Try.prog 15 #[.pointer (some ⟨tb, 0, none⟩), .string s] W fun e w' => ∃ v', e = .returned v' ∧ w'.ownsRow W.heap.size 85 9 v' A.length (ansC A) ∧ Below W.heap.size W w') ∧ (∀ W v, TxnsIn Any W v l → Calls Try.prog 16 #[v, .string s] W fun e w' => ∃ v', e = .returned v' ∧ w'.ownsRow W.heap.size 85 9 v' A.length (ansC A) ∧ Below W.heap.size W w') := by
  by_cases hT : tellN l s
  · exact ⟨anoN l s, anoN_len hG s, fun B tb W h => anom_yes B tb l s W h hs hG hT, fun W v h => ranom_yes W v l s h hG hT⟩
  · refine ⟨[], by simp, fun B tb W h => ?_, fun W v h => ?_⟩
    · refine (anom_un _ s W (fun W' hb => look_un B tb l s W' (h.later hb) hs hT)).mono ?_
      rintro e w' ⟨rfl, hw⟩
      exact ⟨_, rfl, World.ownsRow_nil _ _ _ _, hw⟩
    · refine (ranom_un W v l s h hG hT).mono ?_
      rintro e w' ⟨rfl, hw⟩
      exact ⟨_, rfl, World.ownsRow_nil _ _ _ _, hw⟩
set_option maxHeartbeats 2000000 in
set_option maxRecDepth 100000 in
theorem redges_un (w : World) (v : Value) (l : List MTxn) (s : ByteArray) (h : TxnsIn Any w v l) (hG : Good l) (hn : ¬ okN l s) : Calls Try.prog 20 #[v, .string s] w fun e w' => e = .returned (.slice none 0 0) ∧ Below w.heap.size w w' := by
  have RT := hid (rtrace_b w v l s h hG false ⟨fun c => (by cases c), fun c => absurd c hn⟩)
  obtain ⟨a1, c1, rfl, _⟩ := RowsIn.cells h (by omega)
  clear h hG hn
  go_enter Try.func20, Try.ntmps20
  go_wp2_with (go_at_call 13; refine RT.out.mono ?_; rintro e w1 ⟨ra, rn, rc, rfl, b1⟩; have B1 := hid b1; clear b1 RT)
  go_ret
  exact ⟨rfl, B1.out⟩
theorem once_len (ws : List MWy) : (onceW ws).length ≤ ws.length := by
  rw [← onceK_all]
  exact onceK_len ws ws.length
theorem both_edges (l : List MTxn) (s : ByteArray) (hG : Good l) (hs : s.size ≤ maxLen) : ∃ E : List MWy, E.length ≤ 500000 ∧ (∀ B tb W, Made B W tb l → Calls Try.prog 19 #[.pointer (some ⟨tb, 0, none⟩), .string s] W fun e w' => ∃ v', e = .returned v' ∧ w'.ownsRow W.heap.size 40 8 v' E.length (whysC E) ∧ Below W.heap.size W w') ∧ (∀ W v, TxnsIn Any W v l → Calls Try.prog 20 #[v, .string s] W fun e w' => ∃ v', e = .returned v' ∧ w'.ownsRow W.heap.size 40 8 v' E.length (whysC E) ∧ Below W.heap.size W w') := by
  by_cases ho : okN l s
  · refine ⟨edgN l s, ?_, fun B tb W h => edges_yes B tb l s W h hs hG ho, fun W v h => redges_yes W v l s h hG ho⟩
    unfold edgN
    refine Nat.le_trans (once_len _) ?_
    rw [← dd3_all]
    have h1 := dd3_len (srcN l s (notes l l.length)) s (knwN l s (notes l l.length)).ts (rdsN l s (notes l l.length)) (rdsN l s (notes l l.length)).length
    have h2 := hG.rlen (s := s)
    have h3 := (hG.trace (s := s)).2
    omega
  · refine ⟨[], by simp, fun B tb W h => ?_, fun W v h => ?_⟩
    · refine (edges_un _ s W (trusted_not B tb l s W h hs hG ho)).mono ?_
      rintro e w' ⟨rfl, hw⟩
      exact ⟨_, rfl, World.ownsRow_nil _ _ _ _, hw⟩
    · refine (redges_un W v l s h hG ho).mono ?_
      rintro e w' ⟨rfl, hw⟩
      exact ⟨_, rfl, World.ownsRow_nil _ _ _ _, hw⟩
def toMW (y : MWy) : MW := (y.1, y.2.1, y.2.2.1, y.2.2.2.1, y.2.2.2.2.1, y.2.2.2.2.2.1, y.2.2.2.2.2.2, false)
def toMA (a : MAn) : MA := (a.1, a.2.1, a.2.2.1, a.2.2.2.1, a.2.2.2.2.1, a.2.2.2.2.2, [], false, 0)
theorem getD_map {α β : Type} [Inhabited α] [Inhabited β] (f : α → β) (l : List α) (j : Nat) (h : j < l.length) : (l.map f).getD j default = f (l.getD j default) := by
  simp [List.getD, List.getElem?_eq_getElem h]
theorem whys_in {B : Nat} {w : World} {v : Value} {E : List MWy} (h : w.ownsRow B 40 8 v E.length (whysC E)) (hl : E.length ≤ 1000000) : WhysIn w v (E.map toMW) := by
  rcases id h with ⟨_, ⟨hv, hn⟩ | ⟨g, cap, cur, hv, _, _, hc, _⟩⟩
  · exact ⟨none, 0, by rw [hv, List.length_map, hn], by rw [List.length_map]; omega, fun h0 => absurd h0 (by rw [List.length_map]; omega)⟩
  · refine ⟨_, cap, by rw [hv, List.length_map], by rw [List.length_map]; omega, fun h0 => ⟨g, 0, rfl, trivial, fun j hj => ?_⟩⟩
    rw [List.length_map] at hj
    rw [getD_map _ _ _ hj]
    subst hv
    refine ⟨whyCs (E.getD j default), rfl, rfl, fun i u hu => ?_⟩
    have hi : i < 8 := (List.getElem?_eq_some_iff.1 hu).1
    rw [Nat.zero_add]
    exact (h.cellAt (j * 8 + i) (by omega)).trans ((whysC_at E j i hj hi).trans hu)
theorem ans_in {B : Nat} {w : World} {v : Value} {A : List MAn} (h : w.ownsRow B 85 9 v A.length (ansC A)) (hl : A.length ≤ 1000000) : AnsIn w v (A.map toMA) := by
  rcases id h with ⟨_, ⟨hv, hn⟩ | ⟨g, cap, cur, hv, _, _, hc, _⟩⟩
  · exact ⟨none, 0, by rw [hv, List.length_map, hn], by rw [List.length_map]; omega, fun h0 => absurd h0 (by rw [List.length_map]; omega)⟩
  · refine ⟨_, cap, by rw [hv, List.length_map], by rw [List.length_map]; omega, fun h0 => ⟨g, 0, rfl, trivial, fun j hj => ?_⟩⟩
    rw [List.length_map] at hj
    rw [getD_map _ _ _ hj]
    subst hv
    refine ⟨anC (A.getD j default), rfl, ⟨.slice none 0 0, rfl, ⟨none, 0, rfl, ⟨by simp [MA.cyc, toMA], Nat.le_refl _⟩, fun h0 => absurd h0 (by simp [MA.cyc, toMA])⟩⟩, fun i u hu => ?_⟩
    have hi : i < 9 := (List.getElem?_eq_some_iff.1 hu).1
    rw [Nat.zero_add]
    exact (h.cellAt (j * 9 + i) (by omega)).trans ((ansC_at A j i hj hi).trans hu)
theorem eqWhy_same (v u : Value) (E : List MWy) (w : World) (h1 : ∃ B, w.ownsRow B 40 8 v E.length (whysC E)) (h2 : ∃ B, w.ownsRow B 40 8 u E.length (whysC E)) (hl : E.length ≤ 500000) : Calls Try.prog 18 #[v, u] w fun e w' => e = .returned (.bool true) ∧ Below w.heap.size w w' := by
  obtain ⟨_, h1⟩ := h1
  obtain ⟨_, h2⟩ := h2
  have q := eqWhy_any v u (E.map toMW) (E.map toMW) w (whys_in h1 (by omega)) (whys_in h2 (by omega))
  rw [show whysEq (E.map toMW) (E.map toMW) = true from allEq_refl _ wEq_refl _] at q
  exact q
set_option maxHeartbeats 2000000 in
set_option maxRecDepth 100000 in
theorem sameAns_same (v u : Value) (A : List MAn) (w : World) (h1 : ∃ B, w.ownsRow B 85 9 v A.length (ansC A)) (h2 : ∃ B, w.ownsRow B 85 9 u A.length (ansC A)) (hl : A.length ≤ 150000) : Calls Try.prog 14 #[v, u] w fun e w' => e = .returned (.bool true) ∧ Below w.heap.size w w' := by
  obtain ⟨_, h1⟩ := h1
  obtain ⟨_, h2⟩ := h2
  have q := eqFA_any v u (A.map toMA) (A.map toMA) w (ans_in h1 (by omega)) (ans_in h2 (by omega))
  rw [show ansEq (A.map toMA) (A.map toMA) = true from allEq_refl _ aEq_refl _] at q
  obtain ⟨va, vc, hv⟩ := own_slice h1
  obtain ⟨ua, uc, hu⟩ := own_slice h2
  subst hv hu
  have Q := hid q
  clear q h1 h2
  go_enter Try.func14, Try.ntmps14
  go_wp2_with (go_at_call 39; refine Q.out.mono ?_; rintro e w1 ⟨rfl, b1⟩; have B1 := hid b1; clear b1 Q)
  go_ret
  exact ⟨rfl, B1.out⟩
theorem eqInts_same (v u : Value) (ts : List Int) (w : World) (h1 : IntsIn Any w v ts) (h2 : IntsIn Any w u ts) (hl : ts.length ≤ 100000) : Calls Try.prog 17 #[v, u] w fun e w' => e = .returned (.bool true) ∧ Below w.heap.size w w' := by
  obtain ⟨a, c, rfl, _, ha⟩ := IntsIn.cells h1
  obtain ⟨b, d, rfl, _, hb⟩ := IntsIn.cells h2
  have q := slicesEqual_cells a b c d ts.length ts.length ts ts w rfl rfl (by omega) ha hb
  rw [decide_eq_true rfl] at q
  exact q.mono fun e w' ⟨h1, n, h2⟩ => ⟨h1, below_dr h2⟩
end Go.Proofs.Ytnfbcmnlloipiaa
