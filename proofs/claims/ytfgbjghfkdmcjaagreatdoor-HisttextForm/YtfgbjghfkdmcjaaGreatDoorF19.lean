/-
  The document's reader of a history's text: the whole.
  HisttextForm: a text that is read, printed, has one form, which is read as the same.
-/
import Derived.Test.YtfgbjghfkdmcjaaGreatDoorF18
import Derived.Test.YtfgbjghfkdmcjaaGreatDoorF14
import Derived.Test.YtfgbjghfkdmcjaaGreatDoorF15
namespace Go.Proofs.YtfgbjghfkdmcjaaGreatDoor
set_option linter.unusedVariables false
set_option linter.unusedSimpArgs false
open Go.RowKit

/-- What the document's Parse answers. -/
def RParseT (w : World) (r : Except (Int × Int) (List MEv)) (e : Ending) (w' : World) : Prop := match r with
  | .ok l => ∃ v, e = .returned (.tuple #[v, .int .i64 0, .int .i64 0]) ∧ EvsIn (fun b => w.heap.size ≤ b) w' v l
  | .error f => e = .returned (.tuple #[.slice none 0 0, .int .i64 f.1, .int .i64 f.2])
def rparseM (s : ByteArray) : Except (Int × Int) (List MEv) := match scanM s with
  | .ok T => rHist (s.size : Int) (T.length + 1) T []
  | .error (a, y) => .error ((a : Int), (y : Int))
theorem rparseM_ok {s : ByteArray} {T : List MTok} (h : scanM s = .ok T) : rparseM s = rHist (s.size : Int) (T.length + 1) T [] := by unfold rparseM; rw [h]
theorem rparseM_err {s : ByteArray} {a y : Nat} (h : scanM s = .error (a, y)) : rparseM s = .error ((a : Int), (y : Int)) := by unfold rparseM; rw [h]
/-- Both answer alike. -/
theorem parse_alike (s : ByteArray) : parseM s = rparseM s := by
  cases h : scanM s with
  | error q => obtain ⟨a, y⟩ := q; rw [parseM_err h, rparseM_err h]
  | ok T => rw [parseM_ok h, rparseM_ok h, hist_alike (wds_scan h)]
theorem scanM_err {s : ByteArray} {a y : Nat} (h : scanM s = .error (a, y)) : ((y : Int) != 0) = true := by
  have go : ∀ (f i : Nat) (acc : List MTok), scanFrom s f i acc = .error (a, y) → ((y : Int) != 0) = true := by
    intro f
    induction f with
    | zero => intro i acc h; cases h
    | succ f ih =>
      intro i acc h
      simp only [scanFrom] at h
      split at h
      · split at h
        · exact ih _ _ h
        · split at h
          · rename_i e he
            cases h
            exact tokM_err he
          · exact ih _ _ h
      · cases h
  unfold scanM at h
  split at h
  · cases h; rfl
  · exact go _ _ _ h
theorem rs_flags {bx : Nat} {en : Int} {w : World} {r : Rd} (h : RS bx en w r) : w.cell? ⟨bx, 2, none⟩ = some (.bool r.2.isSome) ∧ w.cell? ⟨bx, 3, none⟩ = some (.int .i64 (r.2.getD (0, 0)).1) ∧ w.cell? ⟨bx, 4, none⟩ = some (.int .i64 (r.2.getD (0, 0)).2) := by
  obtain ⟨v, hrc, _⟩ := h
  exact ⟨hrc.c2, hrc.c3, hrc.c4⟩
theorem skip_line {t : MTok} {l : List MTok} (h : tokIs t 4 ⟨#[]⟩ = true) : rSkip (t :: l) = rSkip l := by
  rw [tok_none] at h
  rw [rSkip, if_pos (by simpa using h)]
theorem skip_none {l : List MTok} (h : rIs (l, none) 4 ⟨#[]⟩ = false) : rSkip l = l := by
  cases l with
  | nil => rfl
  | cons t r =>
    have h2 : tokIs t 4 ⟨#[]⟩ = false := h
    rw [tok_none] at h2
    rw [rSkip, if_neg (by simpa using h2)]
theorem rskip_suf : ∀ (l : List MTok), rSkip l <:+ l
  | [] => List.suffix_refl _
  | t :: l => by
    unfold rSkip
    split
    · exact (rskip_suf l).trans (List.suffix_cons _ _)
    · exact List.suffix_refl _
/-- What an event leaves, if it does not fail. -/
theorem rEv_less {en : Int} {l l' : List MTok} {x : MEv} (hw : Wds l) (h : rEv en (l, none) = (x, (l', none))) : (rSkip l').length < l.length ∧ Wds (rSkip l') := by
  have q := sim_ev (en := en) hw
  cases hp : pEv en l with
  | error e =>
    rw [hp] at q
    have q' : (rEv en (l, none)).2.2 = some e := q
    rw [h] at q'
    cases q'
  | ok z =>
    rw [hp] at q
    obtain ⟨l2, h1, h2, h3, h4⟩ := q
    rw [h] at h1
    injection h1 with _ h1
    injection h1 with h1 _
    subst h1
    rw [h2]
    exact ⟨Nat.lt_of_le_of_lt (rSkip_le _) h4, (hw.suf h3).suf (rskip_suf _)⟩
set_option maxHeartbeats 8000000 in
set_option maxRecDepth 100000 in
theorem rparse_is (s : ByteArray) (w : World) :
    Calls Tryz.prog 5 #[.string s] w fun e w' => RParseT w (rparseM s) e w' ∧ Below w.heap.size w w' := by
  have SC := hid (refScan_any s w)
  cases hsc : scanM s with
  | error q =>
    obtain ⟨a, y⟩ := q
    rw [rparseM_err hsc]
    have hy := scanM_err hsc
    rw [hsc] at SC
    go_enter Tryz.func5, Tryz.ntmps5
    go_wp2_with fail
    go_at_call 13
    refine SC.out.mono ?_
    rintro e w1 ⟨rfl, b1⟩
    go_wp2_with fail
    exact bodyPost_ret (v := .tuple #[.slice none 0 0, .int .i64 (a : Int), .int .i64 (y : Int)]) (by simp [results, Tryz.results5, go_sem]) rfl ⟨rfl, b1⟩
  | ok T =>
    rw [rparseM_ok hsc]
    rw [hsc] at SC
    obtain ⟨i0, hi, hz0, hz1, hz2⟩ := info_parts Tryz.infoEv
    have HI := hid hi
    have HZ0 := hid hz0
    have HZ1 := hid hz1
    have HZ2 := hid hz2
    have HWDS := hid (wds_scan hsc)
    clear hi hz0 hz1 hz2 hsc
    go_enter Tryz.func5, Tryz.ntmps5
    go_wp2_with fail
    go_at_call 13
    refine SC.out.mono ?_
    rintro e w1 ⟨⟨v, rfl, htk, hrm⟩, b1⟩
    have TK := hid htk
    obtain ⟨ta, tc, rfl, htk1, htk2⟩ := id htk
    have hcap : T.length ≤ tc := by
      obtain ⟨a', n', c', h1, h2⟩ := hrm
      injection h1 with _ h3 h4
      omega
    have B1 := hid b1
    clear htk1 htk2 htk hrm b1
    have hs1 := B1.out.size
    obtain ⟨W0, hW0⟩ : ∃ W0, w1.alloc (.cells #[.slice ta T.length tc, .int .i64 (s.size : Int), .bool false, .int .i64 0, .int .i64 0] 48) = W0 := ⟨_, rfl⟩
    obtain ⟨bx, hbx⟩ : ∃ bx, bx = w1.heap.size := ⟨_, rfl⟩
    have R0 : Hid (RS bx (s.size : Int) W0 (T, none)) := by
      show RS _ _ _ _
      rw [← hW0, hbx]
      refine ⟨_, ⟨new_cells w1 _ _ 0, new_cells w1 _ _ 1, new_cells w1 _ _ 2, new_cells w1 _ _ 3, new_cells w1 _ _ 4, Lib.frozen_of_heap (heap_alloc_new w1 _) 0, Lib.frozen_of_heap (heap_alloc_new w1 _) 2, Lib.frozen_of_heap (heap_alloc_new w1 _) 3, Lib.frozen_of_heap (heap_alloc_new w1 _) 4⟩, ?_⟩
      have q := (left_of_toks (B := w1.heap.size) TK.out (Nat.le_refl _)).keep (below_box w1 (.cells #[.slice ta T.length tc, .int .i64 (s.size : Int), .bool false, .int .i64 0, .int .i64 0] 48))
      obtain ⟨ao, c, hv, hc⟩ := q
      injection hv with h1 h2 h3
      subst h1 h3
      exact ⟨_, _, rfl, hcap, hc⟩
    have BW0 : Hid (Below w.heap.size w W0) := by rw [← hW0]; exact B1.out.alloc B1.out.size _
    have hbl : w.heap.size ≤ bx := by omega
    have hWs : Hid (bx + 1 ≤ W0.heap.size) := by show _ ≤ _; rw [← hW0, hbx]; simp
    have hWe : Hid (W0.heap.size = bx + 1) := by show _ = _; rw [← hW0, hbx]; simp
    go_wp2_with fail
    clear hW0
    try rw [← hbx]
    try rw [← hbx] at *
    go_loopg [9, 10] (T.length + 1) (fun gm lv xv wr => ∃ (l : List MTok) (f : Nat) (evs : List MEv) (rows : List (List Value)), (rSkip l).length + 1 ≤ gm ∧ (rSkip l).length ≤ f ∧ evs.length ≤ 300 ∧ Aside (Wds (rSkip l)) ∧ Aside (RS bx (s.size : Int) wr (l, none)) ∧ Aside (OutInv 56 3 EvRow (bx + 1) wr lv evs.length rows evs) ∧ Aside (Beside bx W0 wr) ∧ Aside (bx + 1 ≤ wr.heap.size) ∧ Aside (rHist (s.size : Int) (T.length + 1) T [] = rHist (s.size : Int) (f + 1) l evs))
    case atStart => exact ⟨T, T.length, [], [], by have := rSkip_le T; omega, rSkip_le T, by simp, HWDS.out.suf (rskip_suf T), R0.out, OutInv.nil _ _ _ _ _, Beside.refl _ _, hWs.out, rfl⟩
    case round =>
      rename World => wo
      obtain ⟨l, f, evs, rows, hgm, hf, h300, HWD, HR, OI, BE, SW, HN⟩ := hrel
      obtain ⟨la, lc, rfl⟩ := OI.out.sliceV
      have hgm2 := hid hgm
      clear hgm
      go_wp2_with fail
      go_loopg [27] (l.length + 1) (fun gm2 _ wr2 => ∃ l2 : List MTok, l2.length + 1 ≤ gm2 ∧ Aside (rSkip l2 = rSkip l) ∧ Aside (RS bx (s.size : Int) wr2 (l2, none)) ∧ Aside (Beside bx wo wr2))
      case atStart => exact ⟨l, Nat.le_refl _, rfl, HR.out, Beside.refl _ _⟩
      case round =>
        obtain ⟨l2, hg2, HS2, HR2, BE2⟩ := hrel
        have hg2H := hid hg2
        clear hg2
        cases hi : rIs (l2, none) 4 ⟨#[]⟩ with
        | true =>
          obtain ⟨t, l3, he, ht⟩ := rIs_true hi
          injection he with he _
          subst he
          have hw4 : Hid (rWant (s.size : Int) (t :: l3, none) 4 ⟨#[]⟩ = (t, (l3, none))) := by show _ = _; simp [rWant, ht]
          go_wp2_with fail
          go_at_call 14
          refine (is_any _ _ _ _ _ _ HR2.out).mono ?_
          rintro e w' ⟨rfl, rfl⟩
          rw [hi]
          go_wp2_with fail
          go_at_call 15
          refine (want_any _ _ _ _ _ _ HR2.out).mono ?_
          rintro e w5 ⟨rfl, h5, b5⟩
          rw [hw4.out] at h5
          have H5 := hid h5
          have B5 := hid b5
          clear h5 b5
          go_wp2_with fail
          go_roundg (l3.length + 1)
          case measure => have := hg2H.out; simp at this; omega
          case rel => exact ⟨l3, Nat.le_refl _, (skip_line ht).symm.trans HS2.out, H5.out, BE2.out.trans B5.out⟩
        | false =>
          have hl2 : l2 = rSkip l := (skip_none hi).symm.trans HS2.out
          have OI2 := hid (OI.out.beside (fun _ _ _ _ _ _ h => h.keep) BE2.out (Nat.lt_succ_self bx))
          have B2 : Hid (Beside bx W0 wr) := BE.out.trans BE2.out
          have S2 : Hid (bx + 1 ≤ wr.heap.size) := Nat.le_trans SW.out BE2.out.size
          clear OI BE SW BE2 HR HS2
          have hf2 := hid hf
          clear hf
          go_wp2_with fail
          go_at_call 14
          refine (is_any _ _ _ _ _ _ HR2.out).mono ?_
          rintro e w' ⟨rfl, rfl⟩
          rw [hi]
          obtain ⟨ao, ac, c0⟩ := rs_len HR2.out
          obtain ⟨f2, f3, f4⟩ := rs_flags HR2.out
          simp only [Option.isSome_none] at f2
          clear f3 f4
          cases l2 with
          | nil =>
            have HE : Hid (rHist (s.size : Int) (T.length + 1) T [] = .ok evs) := by show _ = _; rw [HN.out]; exact rHist_nil _ _ _ hl2.symm
            simp only [List.length_nil] at c0
            go_wp2_with fail
            refine bodyPost_ret (v := .tuple #[.slice la evs.length lc, .int .i64 0, .int .i64 0]) (by simp [results, Tryz.results5, go_sem]) rfl ⟨?_, ?_⟩
            · show RParseT _ (rHist (s.size : Int) (T.length + 1) T []) _ _
              rw [HE.out]
              exact ⟨_, rfl, EvsIn.keep (OI2.out.rows_in (bytes := 40) (fun _ _ _ _ _ _ h => h.keep) (by omega)) (fun _ _ _ => rfl) (fun b _ hb => by omega)⟩
            · exact BW0.out.trans (B2.out.below hbl (by have := hWs.out; omega))
          | cons t l3 =>
            have hne : ¬ rSkip l = [] := by rw [← hl2]; exact List.cons_ne_nil _ _
            have hl0 : (((l3.length + 1 : Nat) : Int) == 0) = false := by rw [beq_eq_false_iff_ne]; omega
            simp only [List.length_cons] at c0
            by_cases h3 : evs.length = 300
            · have h3i : ((evs.length : Int) == 300) = true := by rw [h3]; rfl
              have HE : Hid (rHist (s.size : Int) (T.length + 1) T [] = .error (t.2.1, 4)) := by
                show _ = _
                rw [HN.out]
                refine rHist_bad _ _ _ _ hne _ rfl ?_
                rw [if_pos h3, ← hl2]
                have hfl : rFail (s.size : Int) 4 (t :: l3, none) = (t :: l3, some (t.2.1, 4)) := rfl
                rw [hfl, rEv_st]
              go_wp2_with fail
              go_at_call 16
              refine (fail_any bx (s.size : Int) 4 (t :: l3, none) _ HR2.out).mono ?_
              rintro e w5 ⟨rfl, h5, b5⟩
              have hfl : rFail (s.size : Int) 4 (t :: l3, none) = (t :: l3, some (t.2.1, 4)) := rfl
              rw [hfl] at h5
              have H5 := hid h5
              have B2a : Hid (Beside bx W0 w5) := B2.out.trans b5
              clear h5 b5 hfl B2
              have B2 := B2a
              clear B2a
              obtain ⟨lz, hlz⟩ : ∃ lz : List MTok, lz = t :: l3 := ⟨_, rfl⟩
              obtain ⟨ez, hez⟩ : ∃ ez : Int × Int, ez = (t.2.1, 4) := ⟨_, rfl⟩
              obtain ⟨x, hx⟩ : ∃ x, (rEv (s.size : Int) (t :: l3, some (t.2.1, 4))).1 = x := ⟨_, rfl⟩
              have hq : rEv (s.size : Int) (t :: l3, some (t.2.1, 4)) = (x, (lz, some ez)) := Prod.ext hx (by rw [hlz, hez]; exact rEv_st)
              rw [← hez] at HE hq H5
              clear hlz hez hx c0 f2
              have HV : Hid (∀ W, RS bx (s.size : Int) W (t :: l3, some ez) → Calls Tryz.prog 17 #[.pointer (some ⟨bx, 0, none⟩)] W (REvT bx (s.size : Int) W (x, (lz, some ez)))) := fun W hW => by
                have q := revent_is bx (s.size : Int) (t :: l3, some ez) W hW
                rw [hq] at q
                exact q
              clear hq
              go_wp2_with fail
              go_at_call 17
              refine (HV.out _ H5.out).mono ?_
              rintro e w6 ⟨v6, rfl, ⟨ov, rfl, hov⟩, h6, b6⟩
              obtain ⟨oa, oc, rfl, hov1, hov2⟩ := id hov
              simp only at h6 hov
              clear hov1 hov2 HV
              have H6 : Hid (RS bx (s.size : Int) (w6.alloc (.cells #[.int .i64 x.kind, .int .i64 x.proc, .slice oa x.ops.length oc] 56)) (lz, some ez)) := rs_new h6 _
              obtain ⟨f2, f3, f4⟩ := rs_flags H6.out
              have B6 := hid b6
              clear b6 hov h6
              simp only [Option.isSome_some, Option.getD_some] at f2 f3 f4
              go_wp2_with fail
              go_quiet (fail)
              go_wp2_with fail
              refine bodyPost_ret (v := .tuple #[.slice none 0 0, .int .i64 ez.1, .int .i64 ez.2]) (by simp [results, Tryz.results5, go_sem]) rfl ⟨?_, ?_⟩
              · show RParseT _ (rHist (s.size : Int) (T.length + 1) T []) _ _
                rw [HE.out]
                exact rfl
              · have hb := (B2.out.trans B6.out).trans (Beside.of_below (bx := bx) (below_box w6 (.cells #[.int .i64 x.kind, .int .i64 x.proc, .slice oa x.ops.length oc] 56)))
                exact BW0.out.trans (below_drewN (hb.below hbl (by have := hWs.out; omega)) _)
            · have h3i : ((evs.length : Int) == 300) = false := by rw [beq_eq_false_iff_ne]; omega
              have HRE : Hid (rEv (s.size : Int) (if evs.length = 300 then rFail (s.size : Int) 4 (rSkip l, none) else (rSkip l, none)) = rEv (s.size : Int) (t :: l3, none)) := by show _ = _; rw [if_neg h3, ← hl2]
              cases hq2 : (rEv (s.size : Int) (t :: l3, none)).2.2 with
              | some ez =>
                have HE : Hid (rHist (s.size : Int) (T.length + 1) T [] = .error ez) := by
                  show _ = _
                  rw [HN.out]
                  refine rHist_bad _ _ _ _ hne _ HRE.out ?_
                  exact hq2
                obtain ⟨lz, hlz⟩ : ∃ lz : List MTok, (rEv (s.size : Int) (t :: l3, none)).2.1 = lz := ⟨_, rfl⟩
                obtain ⟨x, hx⟩ : ∃ x, (rEv (s.size : Int) (t :: l3, none)).1 = x := ⟨_, rfl⟩
                have hq : rEv (s.size : Int) (t :: l3, none) = (x, (lz, some ez)) := by rw [← hx, ← hlz, ← hq2]
                clear hlz hq2 hx HRE
                have HV : Hid (∀ W, RS bx (s.size : Int) W (t :: l3, none) → Calls Tryz.prog 17 #[.pointer (some ⟨bx, 0, none⟩)] W (REvT bx (s.size : Int) W (x, (lz, some ez)))) := fun W hW => by
                  have q := revent_is bx (s.size : Int) (t :: l3, none) W hW
                  rw [hq] at q
                  exact q
                clear hq
                go_wp2_with fail
                go_at_call 17
                refine (HV.out _ HR2.out).mono ?_
                rintro e w6 ⟨v6, rfl, ⟨ov, rfl, hov⟩, h6, b6⟩
                obtain ⟨oa, oc, rfl, hov1, hov2⟩ := id hov
                simp only at h6 hov
                clear hov1 hov2 HV
                clear c0
                clear f2
                have H6 : Hid (RS bx (s.size : Int) (w6.alloc (.cells #[.int .i64 x.kind, .int .i64 x.proc, .slice oa x.ops.length oc] 56)) (lz, some ez)) := rs_new h6 _
                obtain ⟨f2, f3, f4⟩ := rs_flags H6.out
                have B6 := hid b6
                clear b6 hov h6
                simp only [Option.isSome_some, Option.getD_some] at f2 f3 f4
                go_wp2_with fail
                go_quiet (fail)
                go_wp2_with fail
                refine bodyPost_ret (v := .tuple #[.slice none 0 0, .int .i64 ez.1, .int .i64 ez.2]) (by simp [results, Tryz.results5, go_sem]) rfl ⟨?_, ?_⟩
                · show RParseT _ (rHist (s.size : Int) (T.length + 1) T []) _ _
                  rw [HE.out]
                  exact rfl
                · have hb := (B2.out.trans B6.out).trans (Beside.of_below (bx := bx) (below_box w6 (.cells #[.int .i64 x.kind, .int .i64 x.proc, .slice oa x.ops.length oc] 56)))
                  exact BW0.out.trans (below_drewN (hb.below hbl (by have := hWs.out; omega)) _)
              | none =>
                obtain ⟨q, hqe⟩ : ∃ q, rEv (s.size : Int) (t :: l3, none) = q := ⟨_, rfl⟩
                obtain ⟨x, l4, fz⟩ := q
                have hfz : fz = none := by rw [hqe] at hq2; exact hq2
                subst hfz
                have hless := rEv_less (by rw [hl2]; exact HWD.out) hqe
                have HL := hid hless
                have HE : Hid (rHist (s.size : Int) (T.length + 1) T [] = rHist (s.size : Int) f l4 (evs ++ [x])) := by
                  show _ = _
                  rw [HN.out]
                  exact rHist_more _ _ _ _ _ hne (HRE.out.trans hqe)
                have hlen2 : (rSkip l).length = l3.length + 1 := by rw [← hl2]; rfl
                have hff : ∃ fz, f = fz + 1 := ⟨f - 1, by have := hf2.out; omega⟩
                obtain ⟨fz, rfl⟩ := hff
                clear hq2 hless HRE
                have HV : Hid (∀ W, RS bx (s.size : Int) W (t :: l3, none) → Calls Tryz.prog 17 #[.pointer (some ⟨bx, 0, none⟩)] W (REvT bx (s.size : Int) W (x, (l4, none)))) := fun W hW => by
                  have q := revent_is bx (s.size : Int) (t :: l3, none) W hW
                  rw [hqe] at q
                  exact q
                clear hqe
                go_wp2_with fail
                go_at_call 17
                refine (HV.out _ HR2.out).mono ?_
                rintro e w6 ⟨v6, rfl, ⟨ov, rfl, hov⟩, h6, b6⟩
                obtain ⟨oa, oc, rfl, hov1, hov2⟩ := id hov
                simp only at h6 hov
                clear hov1 hov2 HV
                clear c0
                clear f2
                obtain ⟨V1, hV1⟩ : ∃ V1, w6.alloc (.cells #[.int .i64 x.kind, .int .i64 x.proc, .slice oa x.ops.length oc] 56) = V1 := ⟨_, rfl⟩
                have H6 : Hid (RS bx (s.size : Int) V1 (l4, none)) := by rw [← hV1]; exact rs_new h6 _
                obtain ⟨f2, f3, f4⟩ := rs_flags H6.out
                simp only [Option.isSome_none] at f2
                clear f3 f4
                have xc0 : V1.cell? ⟨w6.heap.size, 0, none⟩ = some (.int .i64 x.kind) := by rw [← hV1]; exact new_cells w6 _ 56 0
                have xc1 : V1.cell? ⟨w6.heap.size, 1, none⟩ = some (.int .i64 x.proc) := by rw [← hV1]; exact new_cells w6 _ 56 1
                have xc2 : V1.cell? ⟨w6.heap.size, 2, none⟩ = some (.slice oa x.ops.length oc) := by rw [← hV1]; exact new_cells w6 _ 56 2
                have B61 : Hid (Beside bx wr V1) := by rw [← hV1]; exact b6.trans (Beside.of_below (below_box w6 _))
                have OV : Hid (OpsIn (fun b => wr.heap.size ≤ b) V1 (.slice oa x.ops.length oc) x.ops) := by rw [← hV1]; exact hov.keep (keeps_below (below_box w6 _)) (fun _ _ h => h)
                have hsV : w6.heap.size < V1.heap.size := World.block_lt_of_cell? _ _ xc0
                clear h6 hov b6
                have hs2 := S2.out
                have hs9 := B61.out.size
                have hbl2 : Below V1.heap.size V1 (V1.alloc (.cells #[.int .i64 x.kind, .int .i64 x.proc, .slice oa x.ops.length oc] 56)) := below_box V1 _
                have B9a : Hid (Beside bx wr (V1.alloc (.cells #[.int .i64 x.kind, .int .i64 x.proc, .slice oa x.ops.length oc] 56))) := B61.out.trans (Beside.of_below hbl2)
                have V9a : Hid (OpsIn (fun b => wr.heap.size ≤ b) (V1.alloc (.cells #[.int .i64 x.kind, .int .i64 x.proc, .slice oa x.ops.length oc] 56)) (.slice oa x.ops.length oc) x.ops) := OV.out.keep (keeps_below hbl2) (fun _ _ h => h)
                have O9 := hid (OI2.out.beside (fun _ _ _ _ _ _ h => h.keep) B9a.out (Nat.lt_succ_self bx))
                clear hbl2
                go_wp2_with (at_builtin; refine wpList_append_lies _ rfl _ _ 22 rfl (bx + 1) 56 i0 _ 3 40 Tryz.underlying22 HI.out HZ0.out HZ1.out HZ2.out rfl (by decide) (.slice la evs.length lc) evs.length rows.flatten rfl O9.out.own ⟨V1.heap.size, 0, none⟩ 1 1 [.int .i64 x.kind, .int .i64 x.proc, .slice oa x.ops.length oc] rfl rfl (World.news_of_block (cs := #[.int .i64 x.kind, .int .i64 x.proc, .slice oa x.ops.length oc]) (t := 56) (fr := (0, 0)) (heap_alloc_new V1 _)) (by simp [Value.oneCell']) (by decide) (by unfold maxLen; omega) (by omega) (by simp; omega) (V1.heap.size + 1) (by simp) ?_; intro g cap w10 hown hgrow hat hglt)
                have O10 := OI2.out.grow (fun _ _ _ _ _ _ h => h.keep) (row := [.int .i64 x.kind, .int .i64 x.proc, .slice oa x.ops.length oc]) (x := x) hs2 (Nat.lt_succ_self bx) B9a.out ⟨_, rfl, V9a.out⟩ rfl hown hgrow (by simpa using hat)
                have hgs : V1.heap.size < w10.heap.size := by have := hgrow.size; simp at this; omega
                have B910 : Below (bx + 1) V1 w10 := ((Below.refl _ V1).alloc (by omega) _).grown hgrow (by simp; omega) (fun kk hk => (OI2.out.own.lt kk hk).1)
                have O11 : OutInv 56 3 EvRow (bx + 1) w10 (.slice (some ⟨g, 0, none⟩) (evs.length + 1) cap) (evs ++ [x]).length (rows ++ [[.int .i64 x.kind, .int .i64 x.proc, .slice oa x.ops.length oc]]) (evs ++ [x]) := by simpa using O10
                have hl4 := HL.out.1
                have hff := hf2.out
                have hgg := hgm2.out
                simp only [List.length_cons] at hl4
                go_roundg ((rSkip l4).length + 1)
                case measure => omega
                case rel => exact ⟨l4, fz, evs ++ [x], rows ++ [[Value.int .i64 x.kind, .int .i64 x.proc, .slice oa x.ops.length oc]], Nat.le_refl _, by omega, by simp; omega, HL.out.2, H6.out.keep B910, O11, (B2.out.trans B61.out).later (B910.mono (by have := hWe.out; omega)), (by show bx + 1 ≤ w10.heap.size; omega), HE.out⟩
end Go.Proofs.YtfgbjghfkdmcjaaGreatDoor
namespace Go.Proofs.YtfgbjghfkdmcjaaGreatDoor
set_option linter.unusedVariables false
set_option linter.unusedSimpArgs false
open Go.RowKit

theorem evs_none (S : Nat → Prop) (w : World) : EvsIn S w (.slice none 0 0) [] := ⟨none, 0, rfl, by simp, fun h => by simp at h⟩
theorem evsEq_refl (l : List MEv) : evsEq l l = true := allEq_refl _ evEq_refl l
theorem text_is {r : ByteArray} {l : List MEv} (h : r.data.toList = refText l) : r = ⟨(printL false (toksOf l)).toArray⟩ := by
  rw [ByteArray.ext_iff, ← Array.toList_inj, h, print_ref]
/-- What both Prints hand out. -/
def textOf (l : List MEv) : ByteArray := if canM l = true then ⟨(printL false (toksOf l)).toArray⟩ else ⟨#[]⟩
theorem printH_any (v : Value) (l : List MEv) (w : World) (te : TypeId) (pe : Value) (hv : w.cell? ⟨0, 0, none⟩ = some pe) (htab : Pow10 w) (h : EvsIn Any w v l) (hvf : ValsFit l) :
    Calls Tryz.prog 8 #[v] w fun e w' => e = .returned (.string (textOf l)) ∧ Below w.heap.size w w' := by
  unfold textOf
  cases hc : canM l with
  | true => rw [if_pos rfl]; exact printH_yes v l w te pe hv htab h hc hvf
  | false => rw [if_neg (by simp)]; exact printH_no v l w te pe hv h hc
theorem refPrintH_any (v : Value) (l : List MEv) (w : World) (h : EvsIn Any w v l) (hvf : ValsFit l) (hkf : KeysFit l) :
    Calls Tryz.prog 9 #[v] w fun e w' => e = .returned (.string (textOf l)) ∧ Below w.heap.size w w' := by
  unfold textOf
  cases hc : canM l with
  | true =>
    rw [if_pos rfl]
    refine (refPrintH_yes v l w h hc hvf hkf).mono fun e w' ⟨⟨r, he, hr⟩, hb⟩ => ⟨?_, hb⟩
    rw [he, text_is hr]
  | false => rw [if_neg (by simp)]; exact refPrintH_no v l w h hc hkf
theorem text_back {l : List MEv} (hc : canM l = true) (hv : ValsFit l) (hsz : (textOf l).size ≤ 20000) : parseM (textOf l) = .ok l := by
  refine parse_back hc hv ?_ hsz
  unfold textOf
  rw [if_pos hc]
/-! A fault has a number. -/
def Nz {α : Type} (p : Ps α) : Prop := match p with
  | .ok _ => True
  | .error e => e.2 ≠ 0
theorem Nz.bind {α β : Type} {p : Ps α} {f : α → List MTok → Ps β} (h : Nz p) (hf : ∀ x l, Nz (f x l)) : Nz (andP p f) := by
  cases p with
  | error e => exact h
  | ok z => exact hf z.1 z.2
theorem nz_fail {α : Type} (en why : Int) (l : List MTok) (h : why ≠ 0) : Nz (pFail en why l : Ps α) := h
theorem nz_ok {α : Type} (x : α × List MTok) : Nz (.ok x : Ps α) := trivial
section
variable {en : Int}
theorem nz_mark (x : ByteArray) (l : List MTok) : Nz (pMark en x l) := by
  unfold pMark
  split
  · exact nz_ok _
  · exact nz_fail _ _ _ (by decide)
theorem nz_num (l : List MTok) : Nz (pNum en l) := by
  unfold pNum
  split
  · exact nz_fail _ _ _ (by decide)
  · split
    · exact nz_ok _
    · exact nz_fail _ _ _ (by decide)
theorem nz_proc (l : List MTok) : Nz (pProc en l) := by
  unfold pProc
  split
  · exact nz_fail _ _ _ (by decide)
  · split
    · exact nz_ok _
    · exact nz_fail _ _ _ (by decide)
theorem nz_key (l : List MTok) : Nz (pKey en l) := by
  unfold pKey
  split
  · exact nz_fail _ _ _ (by decide)
  · split
    · exact nz_ok _
    · exact nz_fail _ _ _ (by decide)
theorem nz_kind (l : List MTok) : ∀ (ws : List ByteArray) (k : Nat), Nz (pKind en l k ws)
  | [], k => nz_fail _ _ _ (by decide)
  | x :: xs, k => by
    unfold pKind
    split
    · exact nz_ok _
    · exact nz_kind l xs (k + 1)
theorem nz_nums : ∀ (l : List MTok) (acc : List Int), Nz (pNums en l acc)
  | [], acc => nz_ok _
  | t :: l, acc => by
    unfold pNums
    split
    · split
      · exact nz_fail _ _ _ (by decide)
      · exact nz_nums l _
    · exact nz_ok _
theorem nz_list (l : List MTok) : Nz (pList en l) := (nz_mark _ l).bind fun _ l1 => (nz_nums l1 []).bind fun xs l2 => (nz_mark _ l2).bind fun _ l3 => nz_ok _
theorem nz_mid (k : Int) (s : ByteArray) (l : List MTok) : Nz (pMid en k s l) := by
  unfold pMid
  split
  · exact (nz_num l).bind fun _ _ => nz_ok _
  · split
    · split
      · exact nz_ok _
      · split
        · exact nz_ok _
        · split
          · exact nz_ok _
          · exact nz_ok _
    · split
      · split
        · exact (nz_list l).bind fun _ _ => nz_ok _
        · exact nz_ok _
      · exact nz_ok _
theorem nz_op (l : List MTok) : Nz (pOp en l) := (nz_mark _ l).bind fun _ l1 => (nz_kind l1 _ _).bind fun k l2 => (nz_key l2).bind fun s l3 => (nz_mid k s l3).bind fun o l4 => (nz_mark _ l4).bind fun _ l5 => nz_ok _
theorem nz_ops : ∀ (f : Nat) (l : List MTok) (acc : List MOp), Nz (pOps en f l acc)
  | 0, l, acc => nz_ok _
  | f + 1, l, acc => by
    unfold pOps
    split
    · split
      · exact nz_fail _ _ _ (by decide)
      · exact (nz_op l).bind fun o l1 => nz_ops f l1 _
    · exact nz_ok _
theorem nz_end (l : List MTok) : Nz (pEnd en l) := by
  unfold pEnd
  split
  · exact nz_ok _
  · split
    · exact nz_ok _
    · exact nz_fail _ _ _ (by decide)
theorem nz_ev (l : List MTok) : Nz (pEv en l) :=
  ((nz_kind l _ _).bind fun k l1 => (nz_proc l1).bind fun p l2 => (nz_op l2).bind fun o l3 => (nz_ops 10 l3 [o]).bind fun os l4 => nz_ok _).bind fun e l4 => (nz_end l4).bind fun _ l5 => nz_ok _
theorem nz_hist : ∀ (f : Nat) (l : List MTok) (out : List MEv) (e : Int × Int), pHist en f l out = .error e → e.2 ≠ 0
  | 0, l, out, e, h => by cases h
  | f + 1, [], out, e, h => by rw [pHist_nil] at h; cases h
  | f + 1, t :: r, out, e, h => by
    by_cases h4 : t.1 = 4
    · rw [pHist_line _ _ _ _ h4] at h
      exact nz_hist f r out e h
    · by_cases hf : out.length = 300
      · rw [pHist_full _ _ _ _ h4 hf] at h
        cases h
        show (4 : Int) ≠ 0
        decide
      · have hg := nz_ev (en := en) (t :: r)
        cases hp : pEv en (t :: r) with
        | error e' =>
          rw [pHist_bad _ _ _ _ e' h4 hf hp] at h
          rw [hp] at hg
          cases h
          exact hg
        | ok z =>
          rw [pHist_more _ _ _ _ z h4 hf hp] at h
          exact nz_hist f z.2 _ e h
end
theorem parse_nz {s : ByteArray} {f : Int × Int} (h : parseM s = .error f) : (f.2 != 0) = true := by
  cases hs : scanM s with
  | error q =>
    obtain ⟨a, y⟩ := q
    rw [parseM_err hs] at h
    cases h
    exact scanM_err hs
  | ok T =>
    rw [parseM_ok hs] at h
    have := nz_hist _ _ _ _ h
    simpa using this
set_option maxHeartbeats 4000000 in
set_option maxRecDepth 100000 in
theorem form_walk (s : ByteArray) (w : World) (te te1 : TypeId) (pe pe1 : Value) (hv : w.cell? ⟨0, 0, none⟩ = some pe) (hv1 : w.cell? ⟨1, 0, none⟩ = some (.iface te1 pe1)) (htab : Pow10 w) :
    Calls Tryz.prog 3 #[.string s] w fun e w' => e = .returned (.bool true) ∧ Below w.heap.size w w' := by
  have h1 : 0 < w.heap.size := World.block_lt_of_cell? _ _ hv
  have h11 : 1 < w.heap.size := World.block_lt_of_cell? _ _ hv1
  have HV := hid hv
  have HV1 := hid hv1
  have HT : Hid (Lib.TabBelow Tryz.prog w.heap.size w "internal/strconv.uint64pow10" .u64 Lib.pow10Tab) := Lib.tabBelow_of_tabIs htab
  have H5 := hid (parse_is s w te1 pe1 hv1)
  have H6 := hid (rparse_is s)
  rw [← parse_alike s] at H6
  clear hv hv1 htab
  cases hO : parseM s with
  | error f =>
    have hnz := parse_nz hO
    rw [hO] at H5 H6
    clear hO
    obtain ⟨fa, fy⟩ := f
    simp only at hnz
    go_enter Tryz.func3, Tryz.ntmps3
    go_wp2_with fail
    go_at_call 4
    refine H5.out.mono ?_
    rintro e w1 ⟨rfl, b1⟩
    have B1 := hid b1
    clear b1
    go_wp2_with fail
    go_at_call 5
    refine (H6.out w1).mono ?_
    rintro e w2 ⟨rfl, b2⟩
    have B2 : Hid (Below w.heap.size w w2) := B1.out.trans (b2.mono B1.out.size)
    clear b2 B1
    go_wp2_with fail
    go_at_call 6
    refine (is_fault fa fy w2).mono ?_
    rintro e w3 ⟨rfl, b3⟩
    have B3 : Hid (Below w.heap.size w w3) := B2.out.trans (b3.mono B2.out.size)
    clear b3 B2
    go_wp2_with fail
    go_at_call 7
    refine (same_any _ _ [] [] _ (evs_none Any _) (evs_none Any _)).mono ?_
    rintro e w4 ⟨rfl, b4⟩
    rw [evsEq_refl]
    have B4 : Hid (Below w.heap.size w w4) := B3.out.trans (b4.mono B3.out.size)
    clear b4 B3
    go_wp2_with fail
    go_ret
    exact ⟨rfl, B4.out⟩
  | ok l =>
    obtain ⟨hc, hvf, hkf⟩ := parse_can hO
    rw [hO] at H5 H6
    have TB := hid (fun hsz => text_back (l := l) hc hvf hsz)
    have P8 := hid (fun v W hW htab hE => printH_any v l W te pe hW htab hE hvf)
    have P9 := hid (fun v W (hE : EvsIn Any W v l) => refPrintH_any v l W hE hvf hkf)
    clear hO hc hvf hkf
    generalize textOf l = tt at *
    have htt : (tt.toList == tt.toList) = true := by simp
    by_cases hsz : 20000 < tt.size
    · have hszi : (20000 : Int) < (tt.size : Int) := by omega
      go_enter Tryz.func3, Tryz.ntmps3
      go_wp2_with fail
      go_at_call 4
      refine H5.out.mono ?_
      rintro e w1 ⟨⟨v, rfl, hv1⟩, b1⟩
      obtain ⟨va, vc, rfl, hx1, hx2⟩ := id hv1
      clear hx1 hx2
      have V1 := hid hv1
      have B1 := hid b1
      clear hv1 b1
      go_wp2_with fail
      go_at_call 5
      refine (H6.out w1).mono ?_
      rintro e w2 ⟨⟨v', rfl, hv2⟩, b2⟩
      obtain ⟨ua, uc, rfl, hx1, hx2⟩ := id hv2
      clear hx1 hx2
      have V2 := hid hv2
      have V1b := hid (V1.out.keep (T := fun b => w.heap.size ≤ b) (keeps_below b2) (fun _ _ h => h))
      have B2 : Hid (Below w.heap.size w w2) := B1.out.trans (b2.mono B1.out.size)
      clear hv2 b2 V1 B1
      go_wp2_with fail
      go_at_call 6
      refine (is_nil w2).mono ?_
      rintro e w3 ⟨rfl, b3⟩
      have V2b := hid (V2.out.keep (T := fun b => w1.heap.size ≤ b) (keeps_below b3) (fun _ _ h => h))
      have V1c := hid (V1b.out.keep (T := fun b => w.heap.size ≤ b) (keeps_below b3) (fun _ _ h => h))
      have B3 : Hid (Below w.heap.size w w3) := B2.out.trans (b3.mono B2.out.size)
      clear b3 V2 V1b B2
      go_wp2_with fail
      go_at_call 7
      refine (same_any _ _ l l _ V1c.out V2b.out).mono ?_
      rintro e w4 ⟨rfl, b4⟩
      rw [evsEq_refl]
      have V4 := hid (V1c.out.keep (T := Any) (keeps_below b4) (fun _ _ _ => trivial))
      have B4 : Hid (Below w.heap.size w w4) := B3.out.trans (b4.mono B3.out.size)
      clear b4 B3 V1c V2b
      go_wp2_with fail
      go_at_call 8
      refine (P8.out _ w4 ((B4.out.cell (p := ⟨0, 0, none⟩) h1).trans HV.out) (HT.out _ B4.out) V4.out).mono ?_
      rintro e w5 ⟨rfl, b5⟩
      have V5 := hid (V4.out.keep (T := Any) (keeps_below b5) (fun _ _ _ => trivial))
      have B5 : Hid (Below w.heap.size w w5) := B4.out.trans (b5.mono B4.out.size)
      clear b5 V4 B4
      go_wp2_with fail
      go_at_call 9
      refine (P9.out _ w5 (V5.out.keep (T := Any) (fun _ _ _ => rfl) (fun _ _ _ => trivial))).mono ?_
      rintro e w6 ⟨rfl, b6⟩
      go_wp2_with fail
      go_ret
      exact ⟨rfl, B5.out.trans (b6.mono B5.out.size)⟩
    · have hszi : ¬ (20000 : Int) < (tt.size : Int) := by omega
      have PI := hid (fun W hW => parse_is tt W te1 pe1 hW)
      rw [TB.out (by omega)] at PI
      go_enter Tryz.func3, Tryz.ntmps3
      go_wp2_with fail
      go_at_call 4
      refine H5.out.mono ?_
      rintro e w1 ⟨⟨v, rfl, hv1⟩, b1⟩
      obtain ⟨va, vc, rfl, hx1, hx2⟩ := id hv1
      clear hx1 hx2
      have V1 := hid hv1
      have B1 := hid b1
      clear hv1 b1
      go_wp2_with fail
      go_at_call 5
      refine (H6.out w1).mono ?_
      rintro e w2 ⟨⟨v', rfl, hv2⟩, b2⟩
      obtain ⟨ua, uc, rfl, hx1, hx2⟩ := id hv2
      clear hx1 hx2
      have V2 := hid hv2
      have V1b := hid (V1.out.keep (T := fun b => w.heap.size ≤ b) (keeps_below b2) (fun _ _ h => h))
      have B2 : Hid (Below w.heap.size w w2) := B1.out.trans (b2.mono B1.out.size)
      clear hv2 b2 V1 B1
      go_wp2_with fail
      go_at_call 6
      refine (is_nil w2).mono ?_
      rintro e w3 ⟨rfl, b3⟩
      have V2b := hid (V2.out.keep (T := fun b => w1.heap.size ≤ b) (keeps_below b3) (fun _ _ h => h))
      have V1c := hid (V1b.out.keep (T := fun b => w.heap.size ≤ b) (keeps_below b3) (fun _ _ h => h))
      have B3 : Hid (Below w.heap.size w w3) := B2.out.trans (b3.mono B2.out.size)
      clear b3 V2 V1b B2
      go_wp2_with fail
      go_at_call 7
      refine (same_any _ _ l l _ V1c.out V2b.out).mono ?_
      rintro e w4 ⟨rfl, b4⟩
      rw [evsEq_refl]
      have V4 := hid (V1c.out.keep (T := Any) (keeps_below b4) (fun _ _ _ => trivial))
      have B4 : Hid (Below w.heap.size w w4) := B3.out.trans (b4.mono B3.out.size)
      clear b4 B3 V1c V2b
      go_wp2_with fail
      go_at_call 8
      refine (P8.out _ w4 ((B4.out.cell (p := ⟨0, 0, none⟩) h1).trans HV.out) (HT.out _ B4.out) V4.out).mono ?_
      rintro e w5 ⟨rfl, b5⟩
      have V5 := hid (V4.out.keep (T := Any) (keeps_below b5) (fun _ _ _ => trivial))
      have B5 : Hid (Below w.heap.size w w5) := B4.out.trans (b5.mono B4.out.size)
      clear b5 V4 B4
      go_wp2_with fail
      go_at_call 4
      refine (PI.out w5 ((B5.out.cell (p := ⟨1, 0, none⟩) h11).trans HV1.out)).mono ?_
      rintro e w6 ⟨⟨u, rfl, hu⟩, b6⟩
      obtain ⟨xa, xc, rfl, hx1, hx2⟩ := id hu
      clear hx1 hx2
      have U6 := hid hu
      have V6 := hid (V5.out.keep (T := Any) (keeps_below b6) (fun _ _ _ => trivial))
      have B6 : Hid (Below w.heap.size w w6) := B5.out.trans (b6.mono B5.out.size)
      clear b6 hu
      go_wp2_with fail
      go_at_call 7
      refine (same_any _ _ l l w6 V6.out U6.out).mono ?_
      rintro e w7 ⟨rfl, b7⟩
      rw [evsEq_refl]
      have U7 := hid (U6.out.keep (T := Any) (keeps_below b7) (fun _ _ _ => trivial))
      have B7 : Hid (Below w.heap.size w w7) := B6.out.trans (b7.mono B6.out.size)
      clear b7
      go_wp2_with fail
      go_at_call 8
      refine (P8.out _ w7 ((B7.out.cell (p := ⟨0, 0, none⟩) h1).trans HV.out) (HT.out _ B7.out) U7.out).mono ?_
      rintro e w8 ⟨rfl, b8⟩
      go_wp2_with fail
      go_ret
      exact ⟨rfl, B7.out.trans (b8.mono B7.out.size)⟩
end Go.Proofs.YtfgbjghfkdmcjaaGreatDoor
