/-
  PairApart.
  From a reading of a history as data to the history in memory.
-/
import Derived.Test.YtjobdfgcgnpppaaDoorJ11
import Derived.Test.YtjobdfgcgnpppaaDoorJ2
import Derived.Deep.Slices
import Derived.OpenShut
import Derived.SizedLaws
namespace Go.Proofs.YtjobdfgcgnpppaaDoor
set_option linter.unusedVariables false
set_option linter.unusedSimpArgs false
open Go.RowKit Go.Lib Go.Maps

theorem OutInv.evs {B n : Nat} {w : World} {v : Value} {rows : List (List Value)} {l : List MEv} (h : OutInv 42 3 EvRow B w v n rows l) (hn : n * 40 ≤ 140737488355328) : EvsIn (fun b => B ≤ b) w v l := OutInv.rows_in (bytes := 40) evRow_keep h hn
/-- The first m transactions are named as others are. -/
def renU (t u : List MTx) : Nat → List MTx
  | 0 => u
  | m + 1 => (renU t u m).set m (t.getD m default)
theorem renU_len (t u : List MTx) : ∀ m, (renU t u m).length = u.length
  | 0 => rfl
  | m + 1 => by
    unfold renU
    rw [List.length_set, renU_len t u m]
theorem renU_at (t u : List MTx) : ∀ m j, j < u.length → (renU t u m).getD j default = if j < m then t.getD j default else u.getD j default
  | 0, j, _ => by rw [if_neg (Nat.not_lt_zero _)]; rfl
  | m + 1, j, hj => by
    unfold renU
    by_cases e : m = j
    · subst e
      rw [getD_set_new (by rw [renU_len]; exact hj), if_pos (by omega)]
    · rw [getD_set_old e, renU_at t u m j hj]
      by_cases c : j < m
      · rw [if_pos c, if_pos (by omega)]
      · rw [if_neg c, if_neg (by omega)]
theorem renU_all (t u : List MTx) (h : u.length = t.length) : renU t u t.length = t := by
  apply List.ext_getElem
  · rw [renU_len, h]
  · intro j h1 h2
    have q := renU_at t u t.length j (by rw [h]; exact h2)
    rw [if_pos h2, List.getD, List.getElem?_eq_getElem h1, List.getD, List.getElem?_eq_getElem h2] at q
    exact q
/-- What both calls tell. -/
theorem TxnsR.ren {b : Nat} {l : List MEv} {B B' : Nat} {w w' : World} {v v' : Value} {a y a' y' : Int} (h : TxnsR l B w v a y) (h' : TxnsR (l.map (renE b)) B' w' v' a' y') : a' = a ∧ y' = y ∧ ((v = .slice none 0 0 ∧ v' = .slice none 0 0 ∧ y ≠ 0) ∨ (y = 0 ∧ l.length ≤ 300 ∧ (∃ rows, OutInv 44 5 TxR B w v (invN l l.length) rows (txL l l.length)) ∧ ∃ rows, OutInv 44 5 TxR B' w' v' (invN l l.length) rows ((txL l l.length).map (renT b)))) := by
  have hc := can_ren b l
  have hin : canM l = true → ∀ j, j < l.length → 0 ≤ (l.getD j default).proc ∧ (l.getD j default).proc ≤ 99 := fun hcan j hj => by
    obtain ⟨⟨_, _, q3, q4, _⟩, _⟩ := can_ev hcan hj
    exact ⟨q3, q4⟩
  rcases h with ⟨h, rfl, rfl, rfl⟩ | ⟨h, k, hk, hz, hs, rfl, rfl, rfl⟩ | ⟨h, hz, hr, rfl, rfl⟩
  · rcases h' with ⟨h2, rfl, rfl, rfl⟩ | ⟨h2, _⟩ | ⟨h2, _⟩
    · exact ⟨rfl, rfl, .inl ⟨rfl, rfl, by decide⟩⟩
    · rw [hc, h] at h2; cases h2
    · rw [hc, h] at h2; cases h2
  · have hi := hin h
    rcases h' with ⟨h2, _⟩ | ⟨h2, k', hk', hz', hs', rfl, rfl, rfl⟩ | ⟨h2, hz', _⟩
    · rw [hc, h] at h2; cases h2
    · rw [List.length_map] at hk'
      rw [step_ren hi hk'] at hs' ⊢
      have e : k = k' := by
        rcases Nat.lt_trichotomy k k' with c | c | c
        · have q := hz' k c
          rw [step_ren hi hk] at q
          exact absurd q hs
        · exact c
        · exact absurd (hz k' c) hs'
      subst e
      exact ⟨rfl, rfl, .inl ⟨rfl, rfl, hs⟩⟩
    · have q := hz' k (by rw [List.length_map]; exact hk)
      rw [step_ren hi hk] at q
      exact absurd q hs
  · have hi := hin h
    rcases h' with ⟨h2, _⟩ | ⟨h2, k', hk', hz', hs', _⟩ | ⟨h2, hz', ⟨rows', hr'⟩, rfl, rfl⟩
    · rw [hc, h] at h2; cases h2
    · rw [List.length_map] at hk'
      rw [step_ren hi hk'] at hs'
      exact absurd (hz k' hk') hs'
    · rw [List.length_map, inv_ren _ (Nat.le_refl _), tx_ren hi _ (Nat.le_refl _)] at hr'
      refine ⟨rfl, rfl, .inr ⟨rfl, ?_, hr, rows', hr'⟩⟩
      unfold canM at h
      rw [Bool.and_eq_true, decide_eq_true_eq] at h
      exact h.1
set_option maxHeartbeats 8000000 in
set_option maxRecDepth 100000 in
theorem apart_walk {S : Nat → Prop} (w : World) (v : Value) (by0 : Int) (l : List MEv) (h : EvsIn S w v l) (hkf : KeysFit l) (hg : w.cell? ⟨0, 0, none⟩ = some (.iface 104 (.agg #[.pointer (some ⟨1, 25, none⟩)]))) :
    Calls Tryd.prog 7 #[v, .int .i64 by0] w fun e w' => e = .returned (.bool true) ∧ Below w.heap.size w w' := by
  have HE := hid h
  have HK := hid hkf
  have HG := hid hg
  obtain ⟨va, vc, rfl, hbig, k0⟩ := RowsIn.cells h (by decide)
  have EV := hid (events_out va vc l.length l w rfl hbig k0)
  have hli : (l.length : Int) ≤ 3518437208884 := by omega
  obtain ⟨Bn, hBn, hD⟩ := u64_mod by0 99 (by decide) (by decide)
  have hD' : wrap64 ((IntKind.u64.wrap by0).tmod 99) = (Bn : Int) := hD
  clear h hg hkf k0 hD
  go_enter Tryd.func7, Tryd.ntmps7
  go_upto_region 2 with (go_at_call 9; refine EV.out.mono ?_; rintro e w1 ⟨v1, rows1, rfl, h1, b1⟩; have H1 := hid h1; have B1 := hid b1; clear h1 b1)
  obtain ⟨ma, mc, rfl⟩ := own_slice H1.out.own
  have MA : Hid (0 < l.length → ∃ g, ma = some ⟨g, 0, none⟩ ∧ w.heap.size ≤ g) := fun h0 => by
    rcases H1.out.own.2 with ⟨_, hn⟩ | ⟨g, cap, cur, hv, hg, _⟩
    · omega
    · injection hv with a1
      exact ⟨g, a1, hg⟩
  have hmc : l.length ≤ mc := by
    rcases H1.out.own.2 with ⟨_, hn⟩ | ⟨g, cap, cur, hv, hg, hh, hc, _⟩
    · omega
    · injection hv with _ _ a3
      omega
  go_wp2_with fail
  go_loopg [6, 7, 19] l.length (fun gg _ _ i wr => ∃ k : Nat, k ≤ l.length ∧ l.length - k ≤ gg ∧ i = .int .i64 k ∧ Aside (Below w.heap.size w wr) ∧ Aside (∃ rows, OutInv 42 3 EvRow w.heap.size wr (.slice ma l.length mc) l.length rows (renL Bn l k)))
  case atStart => exact ⟨0, Nat.zero_le _, by omega, rfl, B1.out, ⟨rows1, H1.out⟩⟩
  case round =>
    clear H1
    obtain ⟨k, hk, hgk, rfl, BR, AR⟩ := hrel
    by_cases hlt : k < l.length
    · have hlti : (k : Int) < (l.length : Int) := by omega
      obtain ⟨g, rfl, hgw⟩ := MA.out (by omega)
      obtain ⟨rows, hout⟩ := AR.out
      have hat := hout.each k hlt
      rw [renL_at Bn l k k hlt, if_neg (Nat.lt_irrefl _)] at hat
      obtain ⟨ov, hrow, _⟩ := id hat
      have HROW := hid hrow
      have HAT := hid hat
      have d1 : wr.cell? ⟨g, k * 3 + 1, none⟩ = some (.int .i64 (l.getD k default).proc) := by
        have := hout.own.cells (g := g) rfl (k * 3 + 1) (.int .i64 (l.getD k default).proc) (by rw [flatten_get 3 rows _ _ hout.sizes (by rw [hout.rn]; exact hlt) (by decide), hrow]; rfl)
        rw [Addr.add_lit] at this
        simpa using this
      have f1 : wr.frozen? ⟨g, k * 3 + 1, none⟩ = false := by
        rcases hout.own.2 with ⟨hv, _⟩ | ⟨g', cap, cur, hv, hg, hh, _⟩
        · cases hv
        · injection hv with a1
          injection a1 with a1
          injection a1 with a1
          rw [a1]
          exact Lib.frozen_of_heap hh _
      have hkc : (k : Int) < (mc : Int) := by omega
      have NXT : Hid (∀ q : Int, q = renP Bn (l.getD k default).proc → (∃ rows, OutInv 42 3 EvRow w.heap.size (wr.setCell ⟨g, k * 3 + 1, none⟩ (.int .i64 q)) (.slice (some ⟨g, 0, none⟩) l.length mc) l.length rows (renL Bn l (k + 1))) ∧ Below w.heap.size w (wr.setCell ⟨g, k * 3 + 1, none⟩ (.int .i64 q))) := fun q hq => by
        have q2 := OutInv.cellAt evRow_keep hout hlt (show 1 < 3 by decide) (.int .i64 q) (renE Bn (l.getD k default)) (fun S w hr => by
          rw [renL_at Bn l k k hlt, if_neg (Nat.lt_irrefl _)] at hr
          obtain ⟨ov', e1, e2⟩ := hr
          exact ⟨ov', by rw [e1, hq]; rfl, e2⟩)
        exact ⟨⟨_, q2⟩, BR.out.setCell hgw _⟩
      have STAY : Hid (renP Bn (l.getD k default).proc = (l.getD k default).proc → ∃ rows, OutInv 42 3 EvRow w.heap.size wr (.slice (some ⟨g, 0, none⟩) l.length mc) l.length rows (renL Bn l (k + 1))) := fun hq => by
        refine ⟨rows, ?_⟩
        have e : renL Bn l (k + 1) = renL Bn l k := by
          show (renL Bn l k).set k (renE Bn (l.getD k default)) = _
          have e1 : renE Bn (l.getD k default) = (renL Bn l k).getD k default := by
            rw [renL_at Bn l k k hlt, if_neg (Nat.lt_irrefl _)]
            show ((l.getD k default).kind, renP Bn (l.getD k default).proc, (l.getD k default).ops) = _
            rw [hq]
          rw [e1, List.getD, List.getElem?_eq_getElem (by rw [renL_len]; exact hlt)]
          simp
        rw [e]
        exact hout
      have RP : Hid (renP Bn (l.getD k default).proc = if 0 ≤ (l.getD k default).proc ∧ (l.getD k default).proc ≤ 99 then ((l.getD k default).proc + 1 + (Bn : Int)) % 100 else (l.getD k default).proc) := rfl
      clear hout hat hrow AR HROW HAT
      generalize renP Bn (l.getD k default).proc = rp at *
      generalize (l.getD k default).proc = pp at *
      by_cases hp : 0 ≤ pp ∧ pp ≤ 99
      · have hp0 := hp.1
        have hp9 := hp.2
        have hrp : (pp + 1 + (Bn : Int)).tmod 100 = rp := by
          rw [RP.out, if_pos hp]
          exact Int.tmod_eq_emod_of_nonneg (by omega)
        have hb99 : (Bn : Int) < 99 := by omega
        have hb0 : (0 : Int) ≤ (Bn : Int) := by omega
        obtain ⟨n1, n2⟩ := NXT.out rp rfl
        have N1 := hid n1
        have N2 := hid n2
        clear n1 n2 NXT STAY hp RP
        go_wp2_with fail
        go_roundg (l.length - (k + 1))
        case measure => omega
        case rel => exact ⟨k + 1, by omega, by omega, by go_num, N2.out, N1.out⟩
      · have hrp : rp = pp := by rw [RP.out, if_neg hp]
        have N1 := hid (STAY.out hrp)
        clear hrp NXT STAY RP
        by_cases hp0 : 0 ≤ pp
        · have hp9 : ¬ (pp ≤ 99) := fun c => hp ⟨hp0, c⟩
          clear hp
          go_wp2_with fail
          go_roundg (l.length - (k + 1))
          case measure => omega
          case rel => exact ⟨k + 1, by omega, by omega, by go_num, BR.out, N1.out⟩
        · clear hp
          go_wp2_with fail
          go_roundg (l.length - (k + 1))
          case measure => omega
          case rel => exact ⟨k + 1, by omega, by omega, by go_num, BR.out, N1.out⟩
    · have hlti : ¬ ((k : Int) < (l.length : Int)) := by omega
      have hke : k = l.length := by omega
      subst hke
      obtain ⟨rows, hout⟩ := AR.out
      rw [renL_all] at hout
      have ME : Hid (EvsIn (fun b => w.heap.size ≤ b) wr (.slice ma l.length mc) (l.map (renE Bn))) := hout.evs (by omega)
      have TX := hid (txns_is wr (.slice va l.length vc) l (EvsIn.keep (T := Any) HE.out (keeps_below BR.out) (fun _ _ _ => trivial)) (cell_later BR.out HG.out))
      clear hout AR EV
      go_wp2_with fail
      go_at_call 14
      refine TX.out.mono ?_
      rintro e w2 ⟨tv, a, y, rfl, b2, t2⟩
      have B2 := hid (bstep b2 BR.out)
      have T2 := hid t2
      have TU := hid (txns_is w2 (.slice ma l.length mc) (l.map (renE Bn)) (EvsIn.keep (T := Any) ME.out (keeps_below b2) (fun _ _ _ => trivial)) (cell_later (bstep b2 BR.out) HG.out))
      clear b2 t2 TX ME
      go_wp2_with fail
      go_at_call 14
      refine TU.out.mono ?_
      rintro e w3 ⟨uv, a2, y2, rfl, b3, t3⟩
      obtain ⟨ea, ey, hcase⟩ := T2.out.ren t3
      subst ea
      subst ey
      have B23 := hid b3
      have B3 := hid (bstep b3 B2.out)
      have RC := hid (rcheck_is w3 (.slice va l.length vc) l (EvsIn.keep (T := Any) HE.out (keeps_below (bstep b3 B2.out)) (fun _ _ _ => trivial)) HK.out)
      have HC := hid hcase
      clear b3 t3 TU hcase
      have ISA : Hid (∀ W, Calls Tryd.prog 12 #[errV a2 y2, .int .i64 a2, .int .i64 y2] W fun e w' => e = .returned (.bool true) ∧ Below W.heap.size W w') := fun W => (is_is a2 y2 a2 y2 T2.out.chk.zero W).mono (fun e w' ⟨h1, h2⟩ => ⟨by rw [h1]; simp, h2⟩)
      go_wp2_with (go_at_call 11; refine RC.out.mono ?_; rintro e w4 ⟨a', y', rfl, b4, t4⟩; have B34 := hid b4; have B24 := hid (bstep b4 B23.out); have B4 := hid (bstep b4 B3.out); obtain ⟨ea, ey⟩ := T2.out.chk.one t4; subst ea; subst ey; clear b4 t4)
      go_at_call 12
      refine (ISA.out _).mono ?_
      rintro e w5 ⟨rfl, b5⟩
      have B35 := hid (bstep b5 B34.out)
      have B25 := hid (bstep b5 B24.out)
      have B5 := hid (bstep b5 B4.out)
      clear b5
      go_wp2_with fail
      go_at_call 12
      refine (ISA.out _).mono ?_
      rintro e w6 ⟨rfl, b6⟩
      have B36 := hid (bstep b6 B35.out)
      have B26 := hid (bstep b6 B25.out)
      have B6 := hid (bstep b6 B5.out)
      clear b6 RC
      rcases HC.out with ⟨rfl, rfl, _⟩ | ⟨_, hl300, ⟨rowsT, hoT⟩, rowsU, hoU⟩
      · have SAM : Hid (∀ W, Calls Tryd.prog 16 #[.slice none 0 0, .slice none 0 0] W fun e w' => e = .returned (.bool true) ∧ Below W.heap.size W w') := fun W => sameTxns_is (S := Any) (T := Any) W [] none none 0 0 (by decide) ⟨none, 0, rfl, by decide, fun h => absurd h (by decide)⟩ ⟨none, 0, rfl, by decide, fun h => absurd h (by decide)⟩
        clear HC
        go_wp2_with fail
        go_loopg [14, 82] 0 (fun gg _ i wr' => i = .int .i64 0 ∧ Aside (Below w.heap.size w wr'))
        case atStart => exact ⟨rfl, B6.out⟩
        case round =>
          obtain ⟨rfl, BF⟩ := hrel
          go_wp2_with (go_at_call 16; refine (SAM.out _).mono ?_; rintro e w7 ⟨rfl, b7⟩; have B7 := hid (bstep b7 BF.out); clear b7)
          go_ret
          exact ⟨rfl, B7.out⟩
      · obtain ⟨ta, tc, rfl⟩ := own_slice hoT.own
        obtain ⟨ua, uc, rfl⟩ := own_slice hoU.own
        have hinv := invN_le l l.length
        have OT := hid hoT
        have OU : Hid (OutInv 44 5 TxR w2.heap.size w6 (.slice ua (invN l l.length) uc) (invN l l.length) rowsU ((txL l l.length).map (renT Bn))) := hoU.later txR_keep B36.out
        have LL : Hid ((txL l l.length).length = invN l l.length) := txL_len l l.length
        clear HC hoT hoU
        obtain ⟨N, hN⟩ : ∃ N, invN l l.length = N := ⟨_, rfl⟩
        obtain ⟨L, hL⟩ : ∃ L, txL l l.length = L := ⟨_, rfl⟩
        rw [hN, hL] at OT OU
        rw [hN] at hinv
        rw [hL, hN] at LL
        rw [hN]
        clear hN hL
        have hNi : (N : Int) ≤ 300 := by omega
        have UA : Hid (0 < N → ∃ g, ua = some ⟨g, 0, none⟩ ∧ w2.heap.size ≤ g) := fun h0 => by
          rcases OU.out.own.2 with ⟨_, hn⟩ | ⟨g, cap, cur, hv, hg, _⟩
          · omega
          · injection hv with a1
            exact ⟨g, a1, hg⟩
        have huc : N ≤ uc := by
          rcases OU.out.own.2 with ⟨_, hn⟩ | ⟨g, cap, cur, hv, hg, hh, hc, _⟩
          · omega
          · injection hv with _ _ a3
            omega
        have htc : N ≤ tc := by
          rcases OT.out.own.2 with ⟨_, hn⟩ | ⟨g, cap, cur, hv, hg, hh, hc, _⟩
          · omega
          · injection hv with _ _ a3
            omega
        have TC : Hid (∀ m, m < N → ∃ g, ta = some ⟨g, 0, none⟩ ∧ g < w2.heap.size ∧ w2.cell? ⟨g, m * 5, none⟩ = some (.int .i64 (L.getD m default).proc)) := fun m hm => by
          obtain ⟨ov, hrow, _⟩ := OT.out.each m hm
          rcases OT.out.own.2 with ⟨_, hn⟩ | ⟨g, cap, cur, hv, hg, hh, _⟩
          · omega
          · injection hv with a1
            refine ⟨g, a1, blt hh, ?_⟩
            have := OT.out.own.cells (g := g) (by rw [a1]; rfl) (m * 5 + 0) (.int .i64 (L.getD m default).proc) (by rw [flatten_get 5 rowsT _ _ OT.out.sizes (by rw [OT.out.rn]; exact hm) (by decide), hrow]; rfl)
            rw [Addr.add_lit] at this
            simpa using this
        go_wp2_with fail
        go_loopg [14, 82] N (fun gg _ i wr' => ∃ m : Nat, m ≤ N ∧ N - m ≤ gg ∧ i = .int .i64 m ∧ Aside (Below w2.heap.size w2 wr') ∧ Aside (∃ rows, OutInv 44 5 TxR w2.heap.size wr' (.slice ua N uc) N rows (renU L (L.map (renT Bn)) m)))
        case atStart => exact ⟨0, Nat.zero_le _, by omega, rfl, B26.out, ⟨rowsU, OU.out⟩⟩
        case round =>
          clear OU
          rename World => wt
          obtain ⟨m, hm, hgm, rfl, BT, AT⟩ := hrel
          by_cases hltm : m < N
          · have hltmi : (m : Int) < (N : Int) := by omega
            obtain ⟨ug, rfl, hug⟩ := UA.out (by omega)
            obtain ⟨tg, rfl, htg, ct⟩ := TC.out m hltm
            obtain ⟨rows, hout⟩ := AT.out
            have hmU : m < (L.map (renT Bn)).length := by rw [List.length_map, LL.out]; exact hltm
            have eU : (renU L (L.map (renT Bn)) m).getD m default = renT Bn (L.getD m default) := by
              rw [renU_at _ _ m m hmU, if_neg (Nat.lt_irrefl _)]
              have hmL : m < L.length := by rw [LL.out]; exact hltm
              simp [List.getD, hmL]
            have hat := hout.each m hltm
            rw [eU] at hat
            obtain ⟨ov, hrow, _⟩ := id hat
            have d0 : wt.cell? ⟨ug, m * 5, none⟩ = some (.int .i64 (renT Bn (L.getD m default)).proc) := by
              have := hout.own.cells (g := ug) rfl (m * 5 + 0) (.int .i64 (renT Bn (L.getD m default)).proc) (by rw [flatten_get 5 rows _ _ hout.sizes (by rw [hout.rn]; exact hltm) (by decide), hrow]; rfl)
              rw [Addr.add_lit] at this
              simpa using this
            have f0 : wt.frozen? ⟨ug, m * 5, none⟩ = false := by
              rcases hout.own.2 with ⟨hv, _⟩ | ⟨g', cap, cur, hv, hg, hh, _⟩
              · cases hv
              · injection hv with a1
                injection a1 with a1
                injection a1 with a1
                rw [a1]
                exact Lib.frozen_of_heap hh _
            have c0 := cell_later BT.out ct
            have q2 := OutInv.cellAt txR_keep hout hltm (show 0 < 5 by decide) (.int .i64 (L.getD m default).proc) (L.getD m default) (fun S w hr => by
              rw [eU] at hr
              obtain ⟨ov', e1, e2⟩ := hr
              exact ⟨ov', by rw [e1]; rfl, e2⟩)
            rw [Nat.add_zero] at q2
            have N1 : Hid (∃ rows, OutInv 44 5 TxR w2.heap.size (wt.setCell ⟨ug, m * 5, none⟩ (.int .i64 (L.getD m default).proc)) (.slice (some ⟨ug, 0, none⟩) N uc) N rows (renU L (L.map (renT Bn)) (m + 1))) := ⟨_, q2⟩
            have N2 : Hid (Below w2.heap.size w2 (wt.setCell ⟨ug, m * 5, none⟩ (.int .i64 (L.getD m default).proc))) := BT.out.setCell hug _
            have hmt : (m : Int) < (tc : Int) := by omega
            have hmu : (m : Int) < (uc : Int) := by omega
            clear hout hat hrow AT q2 eU ct
            generalize (renT Bn (L.getD m default)).proc = p1 at *
            generalize (L.getD m default).proc = p2 at *
            go_wp2_with fail
            go_roundg (N - (m + 1))
            case measure => omega
            case rel => exact ⟨m + 1, by omega, by omega, by go_num, N2.out, N1.out⟩
          · have hltmi : ¬ ((m : Int) < (N : Int)) := by omega
            have hme : m = L.length := by rw [LL.out]; omega
            obtain ⟨rows, hout⟩ := AT.out
            rw [hme, renU_all L (L.map (renT Bn)) (by rw [List.length_map])] at hout
            have TU := (OutInv.stay (w' := wt) txR_keep OT.out (fun b hl _ => BT.out.block b hl)).txns (by omega)
            have SAM : Hid (Calls Tryd.prog 16 #[.slice ta N tc, .slice ua N uc] wt fun e w' => e = .returned (.bool true) ∧ Below wt.heap.size wt w') := by
              have q := sameTxns_is wt L ta ua tc uc (by rw [LL.out]; omega) (by rw [LL.out]; exact TU) (by rw [LL.out]; exact hout.txns (by omega))
              rw [show L.length = N from LL.out] at q
              exact q
            have BF := hid (bstep BT.out B2.out)
            clear hme hout AT TU
            go_wp2_with (go_at_call 16; refine SAM.out.mono ?_; rintro e w7 ⟨rfl, b7⟩; have B7 := hid (bstep b7 BF.out); clear b7)
            go_ret
            exact ⟨rfl, B7.out⟩
end Go.Proofs.YtjobdfgcgnpppaaDoor
namespace Go.Proofs.YtjobdfgcgnpppaaDoor
set_option linter.unusedVariables false
set_option linter.unusedSimpArgs false
open Go.RowKit Go.ChangeShapes Go.WideShapes

def inI (n : Int) : Prop := -9223372036854775808 ≤ n ∧ n ≤ 9223372036854775807
theorem Tryd.cells3 : Tryd.prog.cellsOf 3 = 1 := by kernel_rfl
theorem Tryd.cells4 : Tryd.prog.cellsOf 4 = 1 := by kernel_rfl
theorem Tryd.cells9 : Tryd.prog.cellsOf 9 = 1 := by kernel_rfl
theorem Tryd.cells67 : Tryd.prog.cellsOf 74 = 1 := by kernel_rfl
theorem Tryd.cells56 : Tryd.prog.cellsOf 40 = 1 := by kernel_rfl
theorem Tryd.cells69 : Tryd.prog.cellsOf 76 = 6 := by kernel_rfl
theorem Tryd.cells58 : Tryd.prog.cellsOf 42 = 3 := by kernel_rfl
theorem Tryd.bytes3 : Tryd.prog.bytesOf 3 = 8 := by kernel_rfl
theorem Tryd.bytes69 : Tryd.prog.bytesOf 76 = 64 := by kernel_rfl
theorem Tryd.bytes58 : Tryd.prog.bytesOf 42 = 40 := by kernel_rfl

section
variable {H : Type} {enc : TypeId × Value → H} {P : Program} {w : World} {base : Nat} {spare : Nat → Bool} {held : Bool}

theorem weightsAll_mem {e : TypeId} {n : Nat} {d : DataW H} : ∀ {ds : List (DataW H)}, d ∈ ds → n ∈ d.weights P e → n ∈ DataW.weightsAll P e ds
  | [], hd, _ => by simp at hd
  | x :: ds, hd, hn => by
    simp only [DataW.weightsAll, List.mem_append]
    rcases List.mem_cons.1 hd with rfl | hd
    · exact Or.inl hn
    · exact Or.inr (weightsAll_mem hd hn)

/-- A slice of elements of k cells, each of which can be read. -/
theorem rows_of_trod {α : Type} [Inhabited α] {t e : TypeId} {k bytes fuel : Nat} {R : List Value → α → Prop} {cs : List Value} {x : DataW H × List MemPlace}
    (ht : P.underlying t = some (.slice e)) (hk : P.cellsOf e = k) (hk0 : 0 < k) (hby : P.bytesOf e = bytes)
    (h : DataW.trod enc P w base spare held fuel t cs = some x) (hw : ∀ n ∈ x.1.weights P t, n ≤ reachBytes)
    (he : ∀ (n : Nat) (cs' : List Value) (y : DataW H × List MemPlace), cs'.length = k → DataW.trod enc P w base spare held n e cs' = some y → (∀ n ∈ y.1.weights P e, n ≤ reachBytes) → ∃ a : α, R cs' a) :
    ∃ v l, cs = [v] ∧ RowsIn k bytes R Any w v l := by
  rcases Deep.open_slice ht h with ⟨rfl, rfl⟩ | ⟨a, len, cap, m, n, D, Pl, rfl, hb, hl, hm, hmm, rfl, hx⟩
  · exact ⟨_, [], rfl, none, 0, rfl, by simp, fun h => by simp at h⟩
  · have hlm : len ≤ m := by rw [hmm]; split <;> omega
    rw [hk] at hx
    have key : ∀ i, i < len → ∃ q : α × List Value, q.2.length = k ∧ R q.2 q.1 ∧ ∀ j, j < k → w.cell? (a.add (i * k + j)) = q.2[j]? := fun i hi => by
      obtain ⟨cs', h1, h2⟩ := hx i (by omega)
      obtain ⟨_, hlen, hc⟩ := World.cells?_some h1
      obtain ⟨y, hy⟩ := he n cs' _ hlen h2 (fun q hq => hw q (by
        simp only [DataW.weights, ht, List.mem_cons, List.mem_append]
        exact Or.inr (Or.inl (weightsAll_mem (d := D i) (by simp; exact ⟨i, hi, rfl⟩) hq))))
      exact ⟨(y, cs'), hlen, hy, fun j hj => by rw [← Deep.add_add]; exact hc j hj⟩
    obtain ⟨f, hf⟩ := Deep.choose_lt (α := α × List Value) key
    refine ⟨_, (List.range len).map (fun i => (f i).1), rfl, some a, cap, by simp, ?_, fun h0 => ?_⟩
    · have := hw ((len + (m - len)) * P.bytesOf e) (by simp [DataW.weights, ht])
      rw [hby] at this
      simp only [List.length_map, List.length_range]
      have h2 : len * bytes ≤ (len + (m - len)) * bytes := Nat.mul_le_mul_right _ (by omega)
      have h3 : reachBytes ≤ 140737488355328 := by decide
      omega
    · simp only [List.length_map, List.length_range] at h0
      obtain ⟨b, off, spot⟩ := a
      have hspot : spot = none := by
        obtain ⟨h1, _, h3⟩ := hf 0 h0
        have := h3 0 hk0
        rw [List.getElem?_eq_getElem (by omega)] at this
        simpa [Addr.add] using World.cell?_spot this
      subst hspot
      refine ⟨b, off, rfl, trivial, fun j hj => ?_⟩
      simp only [List.length_map, List.length_range] at hj
      obtain ⟨h1, h2, h3⟩ := hf j hj
      refine ⟨(f j).2, h1, ?_, fun i u hi => ?_⟩
      · simpa [List.getD, hj] using h2
      · have hik : i < k := by rw [← h1]; exact (List.getElem?_eq_some_iff.1 hi).1
        have := h3 i hik
        rw [Addr.add_lit, hi] at this
        simpa [Nat.add_assoc] using this
end

theorem wf_range {n : Int} (h : (Lit.int .i64 n).wf = true) : inI n := by
  simp only [Lit.wf, Bool.and_eq_true, decide_eq_true_eq] at h
  exact h
/-- What holds of each row's element holds of each element. -/
theorem rows_all {α : Type} [Inhabited α] {k bytes : Nat} {R : List Value → α → Prop} {C : α → Prop} {S : Nat → Prop} {w : World} {v : Value} {l : List α} (h : RowsIn k bytes (fun cs a => R cs a ∧ C a) S w v l) : RowsIn k bytes R S w v l ∧ ∀ a ∈ l, C a := by
  obtain ⟨ao, c, hv, hl, hc⟩ := h
  refine ⟨⟨ao, c, hv, hl, fun h0 => ?_⟩, fun a ha => ?_⟩
  · obtain ⟨b, off, e1, e2, hj⟩ := hc h0
    refine ⟨b, off, e1, e2, fun j hlt => ?_⟩
    obtain ⟨cs, q1, q2, q3⟩ := hj j hlt
    exact ⟨cs, q1, q2.1, q3⟩
  · obtain ⟨j, hj, e⟩ := List.mem_iff_getElem.1 ha
    obtain ⟨b, off, _, _, hcc⟩ := hc (by omega)
    obtain ⟨cs, _, q2, _⟩ := hcc j hj
    have : l.getD j default = a := by simp [List.getD, List.getElem?_eq_getElem hj, e]
    rw [this] at q2
    exact q2.2

/-- An operation that a machine can hold. -/
def OpFit (o : MOp) : Prop := (inI o.value ∧ ∀ x ∈ o.list, inI x) ∧ o.key.size ≤ 9223372036854775806
def EvFit (e : MEv) : Prop := (Lit.int .i64 e.proc).wf = true ∧ ∀ o ∈ e.ops, OpFit o

section
variable {H : Type} {enc : TypeId × Value → H} {w : World} {base : Nat} {spare : Nat → Bool} {held : Bool}

/-- A list of ints. -/
theorem ints_of_trod {fuel : Nat} {cs : List Value} {x : DataW H × List MemPlace} (h : DataW.trod enc Tryd.prog w base spare held fuel 74 cs = some x) (hw : ∀ n ∈ x.1.weights Tryd.prog 74, n ≤ reachBytes) :
    ∃ v l, cs = [v] ∧ IntsIn Any w v l ∧ ∀ a ∈ l, inI a := by
  obtain ⟨v, l, hv, hr⟩ := rows_of_trod (R := fun cs (a : Int) => cs = [.int .i64 a] ∧ inI a) (k := 1) (bytes := 8) Tryd.underlying74 Tryd.cells3 (by omega) Tryd.bytes3 h hw (fun n cs' y hlen hy _ => by
    obtain ⟨z, hz, _, hz2⟩ := DataW.trod_int Tryd.underlying3 hy
    exact ⟨z, hz, wf_range hz2⟩)
  obtain ⟨⟨ao, c, hvv, hl, hc⟩, hall⟩ := rows_all hr
  refine ⟨v, l, hv, ⟨ao, c, hvv, hl, fun h0 => ?_⟩, hall⟩
  obtain ⟨b, off, ha, _, hj⟩ := hc h0
  refine ⟨b, off, ha, trivial, fun j hlt => ?_⟩
  obtain ⟨cs', _, hcs, hcc⟩ := hj j hlt
  have := hcc 0 (.int .i64 (l.getD j default)) (by rw [hcs]; rfl)
  simpa using this

set_option maxRecDepth 10000 in
/-- An operation's six cells. -/
theorem op_of_trod (n : Nat) (cs : List Value) (y : DataW H × List MemPlace) (hlen : cs.length = 6) (h : DataW.trod enc Tryd.prog w base spare held n 76 cs = some y) (hw : ∀ n ∈ y.1.weights Tryd.prog 76, n ≤ reachBytes) :
    ∃ a : MOp, OpRow Any w cs a ∧ OpFit a := by
  obtain ⟨xs, m, rfl, rfl, _, hxl, hf⟩ := DataW.trod_struct Tryd.underlying76 h
  match cs, hlen with
  | [c0, c1, c2, c3, c4, c5], _ =>
    match xs, hxl with
    | [x0, x1, x2, x3, x4, x5], _ =>
      have f0 := hf 0 _ rfl
      have f1 := hf 1 _ rfl
      have f2 := hf 2 _ rfl
      have f3 := hf 3 _ rfl
      have f4 := hf 4 _ rfl
      have f5 := hf 5 _ rfl
      simp [Tryd.cells3, Tryd.cells4, Tryd.cells9, Tryd.cells67] at f0 f1 f2 f3 f4 f5
      obtain ⟨k, e0, _⟩ := DataW.trod_int Tryd.underlying3 f0
      obtain ⟨s, e1, g1, _⟩ := DataW.trod_string Tryd.underlying9 f1
      obtain ⟨v, e2, _, wv⟩ := DataW.trod_int Tryd.underlying3 f2
      obtain ⟨lv, l, e3, hl, hli⟩ := ints_of_trod f3 (fun n hn => hw n (by
        simp only [DataW.weights, Tryd.underlying76]
        exact DataW.weights_mem_each (j := 3) rfl rfl n hn))
      have hks : s.size ≤ reachBytes := by
        have := hw s.data.toList.length (by
          simp only [DataW.weights, Tryd.underlying76]
          exact DataW.weights_mem_each (j := 1) rfl rfl _ (by rw [g1]; simp [DataW.weights, Tryd.underlying9]))
        rw [Array.length_toList] at this
        exact this
      obtain ⟨p, e4, _⟩ := DataW.trod_bool Tryd.underlying4 f4
      obtain ⟨q, e5, _⟩ := DataW.trod_bool Tryd.underlying4 f5
      simp at e0 e1 e2 e3 e4 e5
      subst e0 e1 e2 e3 e4 e5
      exact ⟨⟨k, s, v, l, p, q⟩, ⟨c3, rfl, hl⟩, ⟨wf_range wv, hli⟩, Nat.le_trans hks (by decide)⟩

set_option maxRecDepth 10000 in
/-- An event's three cells. -/
theorem ev_of_trod (n : Nat) (cs : List Value) (y : DataW H × List MemPlace) (hlen : cs.length = 3) (h : DataW.trod enc Tryd.prog w base spare held n 42 cs = some y) (hw : ∀ n ∈ y.1.weights Tryd.prog 42, n ≤ reachBytes) :
    ∃ a : MEv, EvRow Any w cs a ∧ EvFit a := by
  obtain ⟨xs, m, rfl, rfl, _, hxl, hf⟩ := DataW.trod_struct Tryd.underlying42 h
  match cs, hlen with
  | [c0, c1, c2], _ =>
    match xs, hxl with
    | [x0, x1, x2], _ =>
      have f0 := hf 0 _ rfl
      have f1 := hf 1 _ rfl
      have f2 := hf 2 _ rfl
      simp [Tryd.cells3, Tryd.cells56] at f0 f1 f2
      obtain ⟨k, e0, _⟩ := DataW.trod_int Tryd.underlying3 f0
      obtain ⟨p, e1, _, hwp⟩ := DataW.trod_int Tryd.underlying3 f1
      obtain ⟨ov, l, e2, hr⟩ := rows_of_trod (R := fun cs a => OpRow Any w cs a ∧ OpFit a) (k := 6) (bytes := 64) Tryd.underlying40 Tryd.cells69 (by omega) Tryd.bytes69 f2 (fun n hn => hw n (by
        simp only [DataW.weights, Tryd.underlying42]
        exact DataW.weights_mem_each (j := 2) rfl rfl n hn)) op_of_trod
      obtain ⟨hl, hfit⟩ := rows_all hr
      simp at e0 e1 e2
      subst e0 e1 e2
      exact ⟨⟨k, p, l⟩, ⟨c2, rfl, hl⟩, hwp, hfit⟩

/-- A slice's length is within its capacity. -/
theorem cap_of_trod {fuel : Nat} {cs : List Value} {x : DataW H × List MemPlace} (h : DataW.trod enc Tryd.prog w base spare held fuel 22 cs = some x) (a0 : Option Addr) (n0 c0 : Nat) (e : cs = [.slice a0 n0 c0]) : n0 ≤ c0 := by
  rcases Deep.open_slice Tryd.underlying22 h with ⟨rfl, rfl⟩ | ⟨a, len, cap, m, n, D, Pl, rfl, hb, hl, hm, hmm, rfl, hx⟩
  · injection e with e
    injection e with _ e1 e2
    omega
  · injection e with e
    injection e with _ e1 e2
    omega

/-- A history. -/
theorem evs_of_trod {fuel : Nat} {cs : List Value} {x : DataW H × List MemPlace} (h : DataW.trod enc Tryd.prog w base spare held fuel 22 cs = some x) (hw : ∀ n ∈ x.1.weights Tryd.prog 22, n ≤ reachBytes) :
    ∃ v l, cs = [v] ∧ EvsIn Any w v l ∧ ∀ e ∈ l, EvFit e := by
  obtain ⟨v, l, hv, hr⟩ := rows_of_trod (R := fun cs a => EvRow Any w cs a ∧ EvFit a) (k := 3) (bytes := 40) Tryd.underlying22 Tryd.cells58 (by omega) Tryd.bytes58 h hw ev_of_trod
  obtain ⟨h1, h2⟩ := rows_all hr
  exact ⟨v, l, hv, h1, h2⟩
end
end Go.Proofs.YtjobdfgcgnpppaaDoor
