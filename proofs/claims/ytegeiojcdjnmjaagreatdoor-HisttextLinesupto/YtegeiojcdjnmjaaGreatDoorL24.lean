/-
  The document's reader of a history's text: the whole.
  Replacing each line's end by more of them, plain; and a text with lines without tokens put in is read alike.
  The shelf's contract of strings.ReplaceAll, laid at this program.
-/
import Derived.Test.YtegeiojcdjnmjaaGreatDoorL23
import Derived.Test.YtegeiojcdjnmjaaGreatDoorL10
import Derived.Lib.ReplaceLaws
import Derived.Lib.Replace
import Derived.Shelf.Lay
import Derived.Shelf.LaySoft
import Derived.Shelf.Strings.Replace
import Derived.Test.YtegeiojcdjnmjaaGreatDoorProg
namespace Go.Proofs.YtegeiojcdjnmjaaGreatDoor
set_option linter.unusedVariables false
set_option linter.unusedSimpArgs false
open Go.RowKit

/-- What the document's Parse answers. -/
def RParseT (w : World) (r : Except (Int × Int) (List MEv)) (e : Ending) (w' : World) : Prop := match r with
  | .ok l => ∃ v, e = .returned (.tuple #[v, .int .i64 0, .int .i64 0]) ∧ EvsIn (fun b => w.heap.size ≤ b) w' v l
  | .error f => e = .returned (.tuple #[.slice none 0 0, .int .i64 f.1, .int .i64 f.2])
def rparseM (s : ByteArray) : Except (Int × Int) (List MEv) := match scanM s with
  | .ok T => rHist (s.size : Int) (T.length + 1) T []
  | .error (a, y) => .error ((a : Int), (y : Int))
theorem rparseM_ok {s : ByteArray} {T : List MTok} (h : scanM s = .ok T) : rparseM s = rHist (s.size : Int) (T.length + 1) T [] := by unfold rparseM; rw [h]
theorem rparseM_err {s : ByteArray} {a y : Nat} (h : scanM s = .error (a, y)) : rparseM s = .error ((a : Int), (y : Int)) := by unfold rparseM; rw [h]
/-- Both answer alike. -/
theorem parse_alike (s : ByteArray) : parseM s = rparseM s := by
  cases h : scanM s with
  | error q => obtain ⟨a, y⟩ := q; rw [parseM_err h, rparseM_err h]
  | ok T => rw [parseM_ok h, rparseM_ok h, hist_alike (wds_scan h)]
theorem scanM_err {s : ByteArray} {a y : Nat} (h : scanM s = .error (a, y)) : ((y : Int) != 0) = true := by
  have go : ∀ (f i : Nat) (acc : List MTok), scanFrom s f i acc = .error (a, y) → ((y : Int) != 0) = true := by
    intro f
    induction f with
    | zero => intro i acc h; cases h
    | succ f ih =>
      intro i acc h
      simp only [scanFrom] at h
      split at h
      · split at h
        · exact ih _ _ h
        · split at h
          · rename_i e he
            cases h
            exact tokM_err he
          · exact ih _ _ h
      · cases h
  unfold scanM at h
  split at h
  · cases h; rfl
  · exact go _ _ _ h
theorem rs_flags {bx : Nat} {en : Int} {w : World} {r : Rd} (h : RS bx en w r) : w.cell? ⟨bx, 2, none⟩ = some (.bool r.2.isSome) ∧ w.cell? ⟨bx, 3, none⟩ = some (.int .i64 (r.2.getD (0, 0)).1) ∧ w.cell? ⟨bx, 4, none⟩ = some (.int .i64 (r.2.getD (0, 0)).2) := by
  obtain ⟨v, hrc, _⟩ := h
  exact ⟨hrc.c2, hrc.c3, hrc.c4⟩
theorem skip_line {t : MTok} {l : List MTok} (h : tokIs t 4 ⟨#[]⟩ = true) : rSkip (t :: l) = rSkip l := by
  rw [tok_none] at h
  rw [rSkip, if_pos (by simpa using h)]
theorem skip_none {l : List MTok} (h : rIs (l, none) 4 ⟨#[]⟩ = false) : rSkip l = l := by
  cases l with
  | nil => rfl
  | cons t r =>
    have h2 : tokIs t 4 ⟨#[]⟩ = false := h
    rw [tok_none] at h2
    rw [rSkip, if_neg (by simpa using h2)]
theorem rskip_suf : ∀ (l : List MTok), rSkip l <:+ l
  | [] => List.suffix_refl _
  | t :: l => by
    unfold rSkip
    split
    · exact (rskip_suf l).trans (List.suffix_cons _ _)
    · exact List.suffix_refl _
/-- What an event leaves, if it does not fail. -/
theorem rEv_less {en : Int} {l l' : List MTok} {x : MEv} (hw : Wds l) (h : rEv en (l, none) = (x, (l', none))) : (rSkip l').length < l.length ∧ Wds (rSkip l') := by
  have q := sim_ev (en := en) hw
  cases hp : pEv en l with
  | error e =>
    rw [hp] at q
    have q' : (rEv en (l, none)).2.2 = some e := q
    rw [h] at q'
    cases q'
  | ok z =>
    rw [hp] at q
    obtain ⟨l2, h1, h2, h3, h4⟩ := q
    rw [h] at h1
    injection h1 with _ h1
    injection h1 with h1 _
    subst h1
    rw [h2]
    exact ⟨Nat.lt_of_le_of_lt (rSkip_le _) h4, (hw.suf h3).suf (rskip_suf _)⟩
set_option maxHeartbeats 8000000 in
set_option maxRecDepth 100000 in
theorem rparse_is (s : ByteArray) (w : World) :
    Calls Tryz.prog 6 #[.string s] w fun e w' => RParseT w (rparseM s) e w' ∧ Below w.heap.size w w' := by
  have SC := hid (refScan_any s w)
  cases hsc : scanM s with
  | error q =>
    obtain ⟨a, y⟩ := q
    rw [rparseM_err hsc]
    have hy := scanM_err hsc
    rw [hsc] at SC
    go_enter Tryz.func6, Tryz.ntmps6
    go_wp2_with fail
    go_at_call 16
    refine SC.out.mono ?_
    rintro e w1 ⟨rfl, b1⟩
    go_wp2_with fail
    exact bodyPost_ret (v := .tuple #[.slice none 0 0, .int .i64 (a : Int), .int .i64 (y : Int)]) (by simp [results, Tryz.results6, go_sem]) rfl ⟨rfl, b1⟩
  | ok T =>
    rw [rparseM_ok hsc]
    rw [hsc] at SC
    obtain ⟨i0, hi, hz0, hz1, hz2⟩ := info_parts Tryz.infoEv
    have HI := hid hi
    have HZ0 := hid hz0
    have HZ1 := hid hz1
    have HZ2 := hid hz2
    have HWDS := hid (wds_scan hsc)
    clear hi hz0 hz1 hz2 hsc
    go_enter Tryz.func6, Tryz.ntmps6
    go_wp2_with fail
    go_at_call 16
    refine SC.out.mono ?_
    rintro e w1 ⟨⟨v, rfl, htk, hrm⟩, b1⟩
    have TK := hid htk
    obtain ⟨ta, tc, rfl, htk1, htk2⟩ := id htk
    have hcap : T.length ≤ tc := by
      obtain ⟨a', n', c', h1, h2⟩ := hrm
      injection h1 with _ h3 h4
      omega
    have B1 := hid b1
    clear htk1 htk2 htk hrm b1
    have hs1 := B1.out.size
    obtain ⟨W0, hW0⟩ : ∃ W0, w1.alloc (.cells #[.slice ta T.length tc, .int .i64 (s.size : Int), .bool false, .int .i64 0, .int .i64 0] 54) = W0 := ⟨_, rfl⟩
    obtain ⟨bx, hbx⟩ : ∃ bx, bx = w1.heap.size := ⟨_, rfl⟩
    have R0 : Hid (RS bx (s.size : Int) W0 (T, none)) := by
      show RS _ _ _ _
      rw [← hW0, hbx]
      refine ⟨_, ⟨new_cells w1 _ _ 0, new_cells w1 _ _ 1, new_cells w1 _ _ 2, new_cells w1 _ _ 3, new_cells w1 _ _ 4, Lib.frozen_of_heap (heap_alloc_new w1 _) 0, Lib.frozen_of_heap (heap_alloc_new w1 _) 2, Lib.frozen_of_heap (heap_alloc_new w1 _) 3, Lib.frozen_of_heap (heap_alloc_new w1 _) 4⟩, ?_⟩
      have q := (left_of_toks (B := w1.heap.size) TK.out (Nat.le_refl _)).keep (below_box w1 (.cells #[.slice ta T.length tc, .int .i64 (s.size : Int), .bool false, .int .i64 0, .int .i64 0] 54))
      obtain ⟨ao, c, hv, hc⟩ := q
      injection hv with h1 h2 h3
      subst h1 h3
      exact ⟨_, _, rfl, hcap, hc⟩
    have BW0 : Hid (Below w.heap.size w W0) := by rw [← hW0]; exact B1.out.alloc B1.out.size _
    have hbl : w.heap.size ≤ bx := by omega
    have hWs : Hid (bx + 1 ≤ W0.heap.size) := by show _ ≤ _; rw [← hW0, hbx]; simp
    have hWe : Hid (W0.heap.size = bx + 1) := by show _ = _; rw [← hW0, hbx]; simp
    go_wp2_with fail
    clear hW0
    try rw [← hbx]
    try rw [← hbx] at *
    go_loopg [9, 10] (T.length + 1) (fun gm lv xv wr => ∃ (l : List MTok) (f : Nat) (evs : List MEv) (rows : List (List Value)), (rSkip l).length + 1 ≤ gm ∧ (rSkip l).length ≤ f ∧ evs.length ≤ 300 ∧ Aside (Wds (rSkip l)) ∧ Aside (RS bx (s.size : Int) wr (l, none)) ∧ Aside (OutInv 62 3 EvRow (bx + 1) wr lv evs.length rows evs) ∧ Aside (Beside bx W0 wr) ∧ Aside (bx + 1 ≤ wr.heap.size) ∧ Aside (rHist (s.size : Int) (T.length + 1) T [] = rHist (s.size : Int) (f + 1) l evs))
    case atStart => exact ⟨T, T.length, [], [], by have := rSkip_le T; omega, rSkip_le T, by simp, HWDS.out.suf (rskip_suf T), R0.out, OutInv.nil _ _ _ _ _, Beside.refl _ _, hWs.out, rfl⟩
    case round =>
      rename World => wo
      obtain ⟨l, f, evs, rows, hgm, hf, h300, HWD, HR, OI, BE, SW, HN⟩ := hrel
      obtain ⟨la, lc, rfl⟩ := OI.out.sliceV
      have hgm2 := hid hgm
      clear hgm
      go_wp2_with fail
      go_loopg [27] (l.length + 1) (fun gm2 _ wr2 => ∃ l2 : List MTok, l2.length + 1 ≤ gm2 ∧ Aside (rSkip l2 = rSkip l) ∧ Aside (RS bx (s.size : Int) wr2 (l2, none)) ∧ Aside (Beside bx wo wr2))
      case atStart => exact ⟨l, Nat.le_refl _, rfl, HR.out, Beside.refl _ _⟩
      case round =>
        obtain ⟨l2, hg2, HS2, HR2, BE2⟩ := hrel
        have hg2H := hid hg2
        clear hg2
        cases hi : rIs (l2, none) 4 ⟨#[]⟩ with
        | true =>
          obtain ⟨t, l3, he, ht⟩ := rIs_true hi
          injection he with he _
          subst he
          have hw4 : Hid (rWant (s.size : Int) (t :: l3, none) 4 ⟨#[]⟩ = (t, (l3, none))) := by show _ = _; simp [rWant, ht]
          go_wp2_with fail
          go_at_call 17
          refine (is_any _ _ _ _ _ _ HR2.out).mono ?_
          rintro e w' ⟨rfl, rfl⟩
          rw [hi]
          go_wp2_with fail
          go_at_call 18
          refine (want_any _ _ _ _ _ _ HR2.out).mono ?_
          rintro e w5 ⟨rfl, h5, b5⟩
          rw [hw4.out] at h5
          have H5 := hid h5
          have B5 := hid b5
          clear h5 b5
          go_wp2_with fail
          go_roundg (l3.length + 1)
          case measure => have := hg2H.out; simp at this; omega
          case rel => exact ⟨l3, Nat.le_refl _, (skip_line ht).symm.trans HS2.out, H5.out, BE2.out.trans B5.out⟩
        | false =>
          have hl2 : l2 = rSkip l := (skip_none hi).symm.trans HS2.out
          have OI2 := hid (OI.out.beside (fun _ _ _ _ _ _ h => h.keep) BE2.out (Nat.lt_succ_self bx))
          have B2 : Hid (Beside bx W0 wr) := BE.out.trans BE2.out
          have S2 : Hid (bx + 1 ≤ wr.heap.size) := Nat.le_trans SW.out BE2.out.size
          clear OI BE SW BE2 HR HS2
          have hf2 := hid hf
          clear hf
          go_wp2_with fail
          go_at_call 17
          refine (is_any _ _ _ _ _ _ HR2.out).mono ?_
          rintro e w' ⟨rfl, rfl⟩
          rw [hi]
          obtain ⟨ao, ac, c0⟩ := rs_len HR2.out
          obtain ⟨f2, f3, f4⟩ := rs_flags HR2.out
          simp only [Option.isSome_none] at f2
          clear f3 f4
          cases l2 with
          | nil =>
            have HE : Hid (rHist (s.size : Int) (T.length + 1) T [] = .ok evs) := by show _ = _; rw [HN.out]; exact rHist_nil _ _ _ hl2.symm
            simp only [List.length_nil] at c0
            go_wp2_with fail
            refine bodyPost_ret (v := .tuple #[.slice la evs.length lc, .int .i64 0, .int .i64 0]) (by simp [results, Tryz.results6, go_sem]) rfl ⟨?_, ?_⟩
            · show RParseT _ (rHist (s.size : Int) (T.length + 1) T []) _ _
              rw [HE.out]
              exact ⟨_, rfl, EvsIn.keep (OI2.out.rows_in (bytes := 40) (fun _ _ _ _ _ _ h => h.keep) (by omega)) (fun _ _ _ => rfl) (fun b _ hb => by omega)⟩
            · exact BW0.out.trans (B2.out.below hbl (by have := hWs.out; omega))
          | cons t l3 =>
            have hne : ¬ rSkip l = [] := by rw [← hl2]; exact List.cons_ne_nil _ _
            have hl0 : (((l3.length + 1 : Nat) : Int) == 0) = false := by rw [beq_eq_false_iff_ne]; omega
            simp only [List.length_cons] at c0
            by_cases h3 : evs.length = 300
            · have h3i : ((evs.length : Int) == 300) = true := by rw [h3]; rfl
              have HE : Hid (rHist (s.size : Int) (T.length + 1) T [] = .error (t.2.1, 4)) := by
                show _ = _
                rw [HN.out]
                refine rHist_bad _ _ _ _ hne _ rfl ?_
                rw [if_pos h3, ← hl2]
                have hfl : rFail (s.size : Int) 4 (t :: l3, none) = (t :: l3, some (t.2.1, 4)) := rfl
                rw [hfl, rEv_st]
              go_wp2_with fail
              go_at_call 19
              refine (fail_any bx (s.size : Int) 4 (t :: l3, none) _ HR2.out).mono ?_
              rintro e w5 ⟨rfl, h5, b5⟩
              have hfl : rFail (s.size : Int) 4 (t :: l3, none) = (t :: l3, some (t.2.1, 4)) := rfl
              rw [hfl] at h5
              have H5 := hid h5
              have B2a : Hid (Beside bx W0 w5) := B2.out.trans b5
              clear h5 b5 hfl B2
              have B2 := B2a
              clear B2a
              obtain ⟨lz, hlz⟩ : ∃ lz : List MTok, lz = t :: l3 := ⟨_, rfl⟩
              obtain ⟨ez, hez⟩ : ∃ ez : Int × Int, ez = (t.2.1, 4) := ⟨_, rfl⟩
              obtain ⟨x, hx⟩ : ∃ x, (rEv (s.size : Int) (t :: l3, some (t.2.1, 4))).1 = x := ⟨_, rfl⟩
              have hq : rEv (s.size : Int) (t :: l3, some (t.2.1, 4)) = (x, (lz, some ez)) := Prod.ext hx (by rw [hlz, hez]; exact rEv_st)
              rw [← hez] at HE hq H5
              clear hlz hez hx c0 f2
              have HV : Hid (∀ W, RS bx (s.size : Int) W (t :: l3, some ez) → Calls Tryz.prog 20 #[.pointer (some ⟨bx, 0, none⟩)] W (REvT bx (s.size : Int) W (x, (lz, some ez)))) := fun W hW => by
                have q := revent_is bx (s.size : Int) (t :: l3, some ez) W hW
                rw [hq] at q
                exact q
              clear hq
              go_wp2_with fail
              go_at_call 20
              refine (HV.out _ H5.out).mono ?_
              rintro e w6 ⟨v6, rfl, ⟨ov, rfl, hov⟩, h6, b6⟩
              obtain ⟨oa, oc, rfl, hov1, hov2⟩ := id hov
              simp only at h6 hov
              clear hov1 hov2 HV
              have H6 : Hid (RS bx (s.size : Int) (w6.alloc (.cells #[.int .i64 x.kind, .int .i64 x.proc, .slice oa x.ops.length oc] 62)) (lz, some ez)) := rs_new h6 _
              obtain ⟨f2, f3, f4⟩ := rs_flags H6.out
              have B6 := hid b6
              clear b6 hov h6
              simp only [Option.isSome_some, Option.getD_some] at f2 f3 f4
              go_wp2_with fail
              go_quiet (fail)
              go_wp2_with fail
              refine bodyPost_ret (v := .tuple #[.slice none 0 0, .int .i64 ez.1, .int .i64 ez.2]) (by simp [results, Tryz.results6, go_sem]) rfl ⟨?_, ?_⟩
              · show RParseT _ (rHist (s.size : Int) (T.length + 1) T []) _ _
                rw [HE.out]
                exact rfl
              · have hb := (B2.out.trans B6.out).trans (Beside.of_below (bx := bx) (below_box w6 (.cells #[.int .i64 x.kind, .int .i64 x.proc, .slice oa x.ops.length oc] 62)))
                exact BW0.out.trans (below_drewN (hb.below hbl (by have := hWs.out; omega)) _)
            · have h3i : ((evs.length : Int) == 300) = false := by rw [beq_eq_false_iff_ne]; omega
              have HRE : Hid (rEv (s.size : Int) (if evs.length = 300 then rFail (s.size : Int) 4 (rSkip l, none) else (rSkip l, none)) = rEv (s.size : Int) (t :: l3, none)) := by show _ = _; rw [if_neg h3, ← hl2]
              cases hq2 : (rEv (s.size : Int) (t :: l3, none)).2.2 with
              | some ez =>
                have HE : Hid (rHist (s.size : Int) (T.length + 1) T [] = .error ez) := by
                  show _ = _
                  rw [HN.out]
                  refine rHist_bad _ _ _ _ hne _ HRE.out ?_
                  exact hq2
                obtain ⟨lz, hlz⟩ : ∃ lz : List MTok, (rEv (s.size : Int) (t :: l3, none)).2.1 = lz := ⟨_, rfl⟩
                obtain ⟨x, hx⟩ : ∃ x, (rEv (s.size : Int) (t :: l3, none)).1 = x := ⟨_, rfl⟩
                have hq : rEv (s.size : Int) (t :: l3, none) = (x, (lz, some ez)) := by rw [← hx, ← hlz, ← hq2]
                clear hlz hq2 hx HRE
                have HV : Hid (∀ W, RS bx (s.size : Int) W (t :: l3, none) → Calls Tryz.prog 20 #[.pointer (some ⟨bx, 0, none⟩)] W (REvT bx (s.size : Int) W (x, (lz, some ez)))) := fun W hW => by
                  have q := revent_is bx (s.size : Int) (t :: l3, none) W hW
                  rw [hq] at q
                  exact q
                clear hq
                go_wp2_with fail
                go_at_call 20
                refine (HV.out _ HR2.out).mono ?_
                rintro e w6 ⟨v6, rfl, ⟨ov, rfl, hov⟩, h6, b6⟩
                obtain ⟨oa, oc, rfl, hov1, hov2⟩ := id hov
                simp only at h6 hov
                clear hov1 hov2 HV
                clear c0
                clear f2
                have H6 : Hid (RS bx (s.size : Int) (w6.alloc (.cells #[.int .i64 x.kind, .int .i64 x.proc, .slice oa x.ops.length oc] 62)) (lz, some ez)) := rs_new h6 _
                obtain ⟨f2, f3, f4⟩ := rs_flags H6.out
                have B6 := hid b6
                clear b6 hov h6
                simp only [Option.isSome_some, Option.getD_some] at f2 f3 f4
                go_wp2_with fail
                go_quiet (fail)
                go_wp2_with fail
                refine bodyPost_ret (v := .tuple #[.slice none 0 0, .int .i64 ez.1, .int .i64 ez.2]) (by simp [results, Tryz.results6, go_sem]) rfl ⟨?_, ?_⟩
                · show RParseT _ (rHist (s.size : Int) (T.length + 1) T []) _ _
                  rw [HE.out]
                  exact rfl
                · have hb := (B2.out.trans B6.out).trans (Beside.of_below (bx := bx) (below_box w6 (.cells #[.int .i64 x.kind, .int .i64 x.proc, .slice oa x.ops.length oc] 62)))
                  exact BW0.out.trans (below_drewN (hb.below hbl (by have := hWs.out; omega)) _)
              | none =>
                obtain ⟨q, hqe⟩ : ∃ q, rEv (s.size : Int) (t :: l3, none) = q := ⟨_, rfl⟩
                obtain ⟨x, l4, fz⟩ := q
                have hfz : fz = none := by rw [hqe] at hq2; exact hq2
                subst hfz
                have hless := rEv_less (by rw [hl2]; exact HWD.out) hqe
                have HL := hid hless
                have HE : Hid (rHist (s.size : Int) (T.length + 1) T [] = rHist (s.size : Int) f l4 (evs ++ [x])) := by
                  show _ = _
                  rw [HN.out]
                  exact rHist_more _ _ _ _ _ hne (HRE.out.trans hqe)
                have hlen2 : (rSkip l).length = l3.length + 1 := by rw [← hl2]; rfl
                have hff : ∃ fz, f = fz + 1 := ⟨f - 1, by have := hf2.out; omega⟩
                obtain ⟨fz, rfl⟩ := hff
                clear hq2 hless HRE
                have HV : Hid (∀ W, RS bx (s.size : Int) W (t :: l3, none) → Calls Tryz.prog 20 #[.pointer (some ⟨bx, 0, none⟩)] W (REvT bx (s.size : Int) W (x, (l4, none)))) := fun W hW => by
                  have q := revent_is bx (s.size : Int) (t :: l3, none) W hW
                  rw [hqe] at q
                  exact q
                clear hqe
                go_wp2_with fail
                go_at_call 20
                refine (HV.out _ HR2.out).mono ?_
                rintro e w6 ⟨v6, rfl, ⟨ov, rfl, hov⟩, h6, b6⟩
                obtain ⟨oa, oc, rfl, hov1, hov2⟩ := id hov
                simp only at h6 hov
                clear hov1 hov2 HV
                clear c0
                clear f2
                obtain ⟨V1, hV1⟩ : ∃ V1, w6.alloc (.cells #[.int .i64 x.kind, .int .i64 x.proc, .slice oa x.ops.length oc] 62) = V1 := ⟨_, rfl⟩
                have H6 : Hid (RS bx (s.size : Int) V1 (l4, none)) := by rw [← hV1]; exact rs_new h6 _
                obtain ⟨f2, f3, f4⟩ := rs_flags H6.out
                simp only [Option.isSome_none] at f2
                clear f3 f4
                have xc0 : V1.cell? ⟨w6.heap.size, 0, none⟩ = some (.int .i64 x.kind) := by rw [← hV1]; exact new_cells w6 _ 62 0
                have xc1 : V1.cell? ⟨w6.heap.size, 1, none⟩ = some (.int .i64 x.proc) := by rw [← hV1]; exact new_cells w6 _ 62 1
                have xc2 : V1.cell? ⟨w6.heap.size, 2, none⟩ = some (.slice oa x.ops.length oc) := by rw [← hV1]; exact new_cells w6 _ 62 2
                have B61 : Hid (Beside bx wr V1) := by rw [← hV1]; exact b6.trans (Beside.of_below (below_box w6 _))
                have OV : Hid (OpsIn (fun b => wr.heap.size ≤ b) V1 (.slice oa x.ops.length oc) x.ops) := by rw [← hV1]; exact hov.keep (keeps_below (below_box w6 _)) (fun _ _ h => h)
                have hsV : w6.heap.size < V1.heap.size := World.block_lt_of_cell? _ _ xc0
                clear h6 hov b6
                have hs2 := S2.out
                have hs9 := B61.out.size
                have hbl2 : Below V1.heap.size V1 (V1.alloc (.cells #[.int .i64 x.kind, .int .i64 x.proc, .slice oa x.ops.length oc] 62)) := below_box V1 _
                have B9a : Hid (Beside bx wr (V1.alloc (.cells #[.int .i64 x.kind, .int .i64 x.proc, .slice oa x.ops.length oc] 62))) := B61.out.trans (Beside.of_below hbl2)
                have V9a : Hid (OpsIn (fun b => wr.heap.size ≤ b) (V1.alloc (.cells #[.int .i64 x.kind, .int .i64 x.proc, .slice oa x.ops.length oc] 62)) (.slice oa x.ops.length oc) x.ops) := OV.out.keep (keeps_below hbl2) (fun _ _ h => h)
                have O9 := hid (OI2.out.beside (fun _ _ _ _ _ _ h => h.keep) B9a.out (Nat.lt_succ_self bx))
                clear hbl2
                go_wp2_with (at_builtin; refine wpList_append_lies _ rfl _ _ 22 rfl (bx + 1) 62 i0 _ 3 40 Tryz.underlying22 HI.out HZ0.out HZ1.out HZ2.out rfl (by decide) (.slice la evs.length lc) evs.length rows.flatten rfl O9.out.own ⟨V1.heap.size, 0, none⟩ 1 1 [.int .i64 x.kind, .int .i64 x.proc, .slice oa x.ops.length oc] rfl rfl (World.news_of_block (cs := #[.int .i64 x.kind, .int .i64 x.proc, .slice oa x.ops.length oc]) (t := 62) (fr := (0, 0)) (heap_alloc_new V1 _)) (by simp [Value.oneCell']) (by decide) (by unfold maxLen; omega) (by omega) (by simp; omega) (V1.heap.size + 1) (by simp) ?_; intro g cap w10 hown hgrow hat hglt)
                have O10 := OI2.out.grow (fun _ _ _ _ _ _ h => h.keep) (row := [.int .i64 x.kind, .int .i64 x.proc, .slice oa x.ops.length oc]) (x := x) hs2 (Nat.lt_succ_self bx) B9a.out ⟨_, rfl, V9a.out⟩ rfl hown hgrow (by simpa using hat)
                have hgs : V1.heap.size < w10.heap.size := by have := hgrow.size; simp at this; omega
                have B910 : Below (bx + 1) V1 w10 := ((Below.refl _ V1).alloc (by omega) _).grown hgrow (by simp; omega) (fun kk hk => (OI2.out.own.lt kk hk).1)
                have O11 : OutInv 62 3 EvRow (bx + 1) w10 (.slice (some ⟨g, 0, none⟩) (evs.length + 1) cap) (evs ++ [x]).length (rows ++ [[.int .i64 x.kind, .int .i64 x.proc, .slice oa x.ops.length oc]]) (evs ++ [x]) := by simpa using O10
                have hl4 := HL.out.1
                have hff := hf2.out
                have hgg := hgm2.out
                simp only [List.length_cons] at hl4
                go_roundg ((rSkip l4).length + 1)
                case measure => omega
                case rel => exact ⟨l4, fz, evs ++ [x], rows ++ [[Value.int .i64 x.kind, .int .i64 x.proc, .slice oa x.ops.length oc]], Nat.le_refl _, by omega, by simp; omega, HL.out.2, H6.out.keep B910, O11, (B2.out.trans B61.out).later (B910.mono (by have := hWe.out; omega)), (by show bx + 1 ≤ w10.heap.size; omega), HE.out⟩
end Go.Proofs.YtegeiojcdjnmjaaGreatDoor
namespace Go.Proofs.YtegeiojcdjnmjaaGreatDoor
set_option linter.unusedVariables false
set_option linter.unusedSimpArgs false
open Go.RowKit

theorem index10_hit (r : List UInt8) : Lib.index (10 :: r) [10] = 0 := by
  unfold Lib.index
  rw [if_pos (by simp [List.isPrefixOf])]
theorem index10_miss {b : UInt8} {r : List UInt8} (h : ¬ b = 10) : Lib.index (b :: r) [10] = if Lib.index r [10] == -1 then -1 else Lib.index r [10] + 1 := by
  conv => lhs; unfold Lib.index
  rw [if_neg (by simpa [List.isPrefixOf] using fun e => h e.symm)]
theorem replaceK_gP (pad : List UInt8) : ∀ (L : List UInt8) (k : Nat), L.count 10 ≤ k → Lib.replaceK [10] (10 :: pad) k L = gP pad L
  | [], 0, _ => rfl
  | [], k + 1, _ => by
    unfold Lib.replaceK
    rw [if_pos (by decide)]
    rfl
  | b :: r, 0, h => by
    have hb : ¬ b = 10 := by rintro rfl; simp at h
    have hr : r.count 10 ≤ 0 := by rw [List.count_cons_of_ne (by simpa using hb)] at h; exact h
    have := replaceK_gP pad r 0 hr
    rw [gP_cons hb, ← this]
    rfl
  | b :: r, k + 1, h => by
    by_cases hb : b = 10
    · subst hb
      have hr : r.count 10 ≤ k := by rw [List.count_cons_self] at h; omega
      rw [Lib.replaceK_hit [10] (10 :: pad) k (10 :: r) 0 (index10_hit r), gP_line, ← replaceK_gP pad r k hr]
      simp
    · have hr : r.count 10 ≤ k + 1 := by rw [List.count_cons_of_ne (by simpa using hb)] at h; exact h
      have ih := replaceK_gP pad r (k + 1) hr
      rw [gP_cons hb, ← ih]
      have hx := index10_miss (r := r) hb
      by_cases hm : Lib.index r [10] = -1
      · rw [hm] at hx
        unfold Lib.replaceK
        rw [hx, hm]
        rfl
      · have hg := Lib.index_ge r [10]
        obtain ⟨i, hi⟩ : ∃ i : Nat, Lib.index r [10] = i := ⟨(Lib.index r [10]).toNat, by omega⟩
        rw [hi, if_neg (by simp)] at hx
        rw [Lib.replaceK_hit [10] (10 :: pad) k (b :: r) (i + 1) hx, Lib.replaceK_hit [10] (10 :: pad) k r i hi]
        simp
theorem replace_gP {pad L : List UInt8} (hp : pad ≠ []) : Lib.replaceAll L [10] (10 :: pad) = gP pad L := by
  unfold Lib.replaceAll Lib.replace
  rw [if_neg (by simpa using fun e => hp e)]
  unfold Lib.replaceNum
  rw [if_pos (.inl (by decide)), Lib.count_one]
  exact replaceK_gP pad L _ (Nat.le_refl _)
/-- A text with lines without tokens put in. -/
def padT (pad : ByteArray) (s : ByteArray) : ByteArray := pad ++ ⟨(gP pad.data.toList s.data.toList).toArray⟩
theorem padT_list (pad s : ByteArray) : (padT pad s).data.toList = pad.data.toList ++ gP pad.data.toList s.data.toList := by
  unfold padT
  rw [ByteArray.data_append, Array.toList_append]
theorem gP_len (pad : List UInt8) : ∀ (L : List UInt8), L.length ≤ (gP pad L).length
  | [] => Nat.le_refl _
  | b :: r => by
    have ih := gP_len pad r
    by_cases hb : b = 10
    · rw [hb, gP_line]; simp; omega
    · rw [gP_cons hb]; simp; omega
theorem padT_size (pad s : ByteArray) : s.size ≤ (padT pad s).size := by
  have h1 := gP_len pad.data.toList s.data.toList
  have h2 := congrArg List.length (padT_list pad s)
  simp only [List.length_append, Array.length_toList] at h1 h2
  have e1 : s.data.size = s.size := rfl
  have e2 : (padT pad s).data.size = (padT pad s).size := rfl
  omega
/-- It is read alike. -/
theorem parse_padT {pad s : ByteArray} (hpad : ∀ b ∈ pad.data.toList, b = 32 ∨ b = 10) (h : (padT pad s).size ≤ 20000) : SmH (parseM s) (parseM (padT pad s)) := by
  have hs := padT_size pad s
  rcases scan_padded hpad (padT_list pad s) (by omega) h with ⟨e, e', q1, q2, q3⟩ | ⟨T, T', q1, q2, q3⟩
  · obtain ⟨a, y⟩ := e
    obtain ⟨a', y'⟩ := e'
    rw [parseM_err q1, parseM_err q2]
    have : y = y' := q3
    subst this
    exact rfl
  · rw [parseM_ok q1, parseM_ok q2]
    exact hist_lines T'.length T T' _ _ [] (Nat.le_refl _) (by omega) (by omega) ⟨_, q3⟩ (wds_scan q1) (wds_scan q2)
theorem parse_big {s : ByteArray} (h : 20000 < s.size) : parseM s = .error (0, 4) := by
  have : scanM s = .error (0, 4) := by unfold scanM; rw [if_pos h]
  rw [parseM_err this]
  rfl
end Go.Proofs.YtegeiojcdjnmjaaGreatDoor
namespace Go.Proofs
open Go.Shelf
shelf_try shelf_lay Lays.n155 Nm 155 at Tryz as Tryz.lays155
shelf_try theorem Tryz.Builder_Extra_155 : Builder.Extra Tryz.prog Tryz.lays155_ren where
  sizeBuilder := by kernel_rfl
  liesBuilder := by kernel_rfl
  t5 := Tryz.underlying5
  a5 := Tryz.isAgg5
  z5 := Tryz.sizeOf5
  v5 := Tryz.zeroValue5
  infoByte := by kernel_rfl
  cellsByte := by kernel_rfl
  sizeByte := by kernel_rfl
  neB5 := by decide
shelf_try open Go.RowKit in
/-- strings.ReplaceAll, at an old that is not empty. -/
theorem Tryz.strings_ReplaceAll (s old new : ByteArray) (m : Int) (w : World) (hs : s.size < 4294967281) (hm : w.cell? ⟨0, 0, none⟩ = some (.int .i64 m)) (h1 : 1 ≤ old.size) (hlen : s.size + Lib.countB s old * new.size ≤ 140737488355328) :
    Calls Tryz.prog 11 #[.string s, .string old, .string new] w fun e w' => e = .returned (.string ⟨(Lib.replaceAll s.data.toList old.data.toList new.data.toList).toArray⟩) ∧ Below w.heap.size w w' := Any.strings_ReplaceAll Tryz.lays155 Tryz.Builder_Extra_155 s old new m w hs hm h1 hlen
shelf_tried
end Go.Proofs
