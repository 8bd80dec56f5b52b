/-
  The code's parser of a history's text: the history.
  Walk of the reference's token.
-/
import Derived.Test.YtegeiojcdjnmjaaGreatDoorL16
import Derived.Test.YtegeiojcdjnmjaaGreatDoorL7
import Derived.Test.YtegeiojcdjnmjaaGreatDoorL4
namespace Go.Proofs.YtegeiojcdjnmjaaGreatDoor
set_option linter.unusedVariables false
set_option linter.unusedSimpArgs false
open Go.RowKit

/-- What a history's reading leaves. -/
def HistT (bx : Nat) (w : World) (p : Except (Int × Int) (List MEv)) (e : Ending) (w' : World) : Prop := match p with
  | .ok l => (∃ v, e = .returned v ∧ EvsIn (fun b => w.heap.size ≤ b) w' v l) ∧ Beside bx w w'
  | .error f => e = gaveUp f.1 f.2 ∧ Beside bx w w'
theorem drop_in {en : Int} {T : List MTok} {k : Nat} (hn : k < T.length) : T.drop k = lookT en T k :: T.drop (k + 1) := by
  rw [look_in hn, List.drop_eq_getElem_cons hn]; simp [List.getD, hn]
theorem hist_end {en : Int} {T : List MTok} {k f : Nat} {out : List MEv} (hn : ¬ k < T.length) : pHist en (f + 1) (T.drop k) out = .ok out := by
  rw [List.drop_eq_nil_of_le (by omega), pHist_nil]
theorem hist_line {en : Int} {T : List MTok} {k f : Nat} {out : List MEv} (hn : k < T.length) (h : (lookT en T k).1 = 4) : pHist en (f + 1) (T.drop k) out = pHist en f (T.drop (k + 1)) out := by
  rw [drop_in (en := en) hn, pHist_line _ _ _ _ h]
theorem hist_full {en : Int} {T : List MTok} {k f : Nat} {out : List MEv} (hn : k < T.length) (h : ¬ (lookT en T k).1 = 4) (h3 : out.length = 300) : pHist en (f + 1) (T.drop k) out = .error (nextAt en (T.drop k), 4) := by
  rw [drop_in (en := en) hn, pHist_full _ _ _ _ h h3]; rfl
theorem hist_bad {en : Int} {T : List MTok} {k f : Nat} {out : List MEv} {e : Int × Int} (hn : k < T.length) (h : ¬ (lookT en T k).1 = 4) (h3 : ¬ out.length = 300) (hp : pEv en (T.drop k) = .error e) : pHist en (f + 1) (T.drop k) out = .error e := by
  rw [drop_in (en := en) hn] at hp ⊢
  exact pHist_bad _ _ _ _ e h h3 hp
theorem hist_more {en : Int} {T : List MTok} {k f : Nat} {out : List MEv} {z : MEv × List MTok} (hn : k < T.length) (h : ¬ (lookT en T k).1 = 4) (h3 : ¬ out.length = 300) (hp : pEv en (T.drop k) = .ok z) : pHist en (f + 1) (T.drop k) out = pHist en f z.2 (out ++ [z.1]) := by
  rw [drop_in (en := en) hn] at hp ⊢
  exact pHist_more _ _ _ _ z h h3 hp
theorem ev_lt {en : Int} {T : List MTok} {k m : Nat} {x : MEv} (hw : Wds T) (hn : k < T.length) (hp : pEv en (T.drop k) = .ok (x, T.drop m)) : T.length - m < T.length - k := by
  have h := sim_ev (en := en) (l := T.drop k) (hw.suf (List.drop_suffix k T))
  rw [hp] at h
  obtain ⟨_, _, _, _, h6⟩ := h
  simpa using h6
set_option maxHeartbeats 8000000 in
set_option maxRecDepth 100000 in
theorem history_is (bx : Nat) (en : Int) (T : List MTok) (w : World) (hw : Wds T) (h : PB bx en T 0 w) :
    Calls Tryz.prog 15 #[.pointer (some ⟨bx, 0, none⟩)] w (HistT bx w (pHist en (T.length + 1) T [])) := by
  have hlt := h.lt
  have P0 := hid h
  clear h
  obtain ⟨i0, hi, hz0, hz1, hz2⟩ := info_parts Tryz.infoEv
  have HI := hid hi
  have HZ0 := hid hz0
  have HZ1 := hid hz1
  have HZ2 := hid hz2
  clear hi hz0 hz1 hz2
  go_enter Tryz.func15, Tryz.ntmps15
  go_wp2_with fail
  go_loopg [3] (T.length + 1) (fun gm lv wr => ∃ (k f : Nat) (evs : List MEv) (rows : List (List Value)), T.length + 1 - k ≤ gm ∧ T.length - k ≤ f ∧ evs.length ≤ 300 ∧ Aside (PB bx en T k wr) ∧ Aside (OutInv 62 3 EvRow w.heap.size wr lv evs.length rows evs) ∧ Aside (Beside bx w wr) ∧ Aside (w.heap.size ≤ wr.heap.size) ∧ Aside (pHist en (T.length + 1) T [] = pHist en (f + 1) (T.drop k) evs))
  case atStart => exact ⟨0, T.length, [], [], by omega, by omega, by simp, P0.out, OutInv.nil _ _ _ _ _, Beside.refl _ _, Nat.le_refl _, by show _ = _; simp⟩
  case round =>
    obtain ⟨k, f, evs, rows, hgm, hf, h300, PK, OI, BE, SW, HN⟩ := hrel
    obtain ⟨la, lc, rfl⟩ := OI.out.sliceV
    obtain ⟨ao, ac, c0⟩ := PK.out.tokens
    have v0 := bcell c0
    have v1 := bcell PK.out.c1
    have bwS : Nonempty (BW wr) := bwSome wr
    by_cases hn : k < T.length
    · have hni : (k : Int) < (T.length : Int) := by omega
      go_wp2_with fail
      refine wp_region_quiet_below Tryz.mixedOrders (by kernel_rfl) ?_
      repeat (go_big_quiet_step (fail))
      refine wpQuiet_nil ?_
      intro w7 hw7
      obtain ⟨⟨V7, hb7⟩, hw8⟩ := hw7
      have hw9 : w7 = V7 := hw8
      subst hw9
      have P7 := hid (PK.out.keep (hb7.mono PK.out.lt))
      have b7b : Beside bx wr w7 := Beside.of_below hb7
      have B7 : Hid (Beside bx w w7) := BE.out.trans b7b
      have O7 := hid (OI.out.beside (fun _ _ _ _ _ _ h => h.keep) b7b hlt)
      have S7 : Hid (w.heap.size ≤ w7.heap.size) := Nat.le_trans SW.out hb7.size
      clear hw8 v0 v1 bwS hb7 b7b PK OI BE SW c0
      have L := hid (look_is bx k en T w7 P7.out)
      by_cases h4 : (lookT en T k).1 = 4
      · have HE := hid (HN.out.trans (hist_line hn h4))
        generalize lookT en T k = t at L h4
        have tf := tokf0 t.1 t.2.1 t.2.2.1 t.2.2.2
        go_wp2_with fail
        go_at_call 39
        refine L.out.mono ?_
        rintro e w8 ⟨rfl, b8⟩
        have P8 := hid (P7.out.keep (b8.mono P7.out.lt))
        have b8b : Beside bx w7 w8 := Beside.of_below b8
        have B8 : Hid (Beside bx w w8) := B7.out.trans b8b
        have O8 := hid (O7.out.beside (fun _ _ _ _ _ _ h => h.keep) b8b hlt)
        have S8 : Hid (w.heap.size ≤ w8.heap.size) := Nat.le_trans S7.out b8.size
        clear b8 b8b P7 B7 O7 S7
        have k1 := P8.out.c1
        have y1 := P8.out.z1
        go_wp2_with fail
        obtain ⟨f2, rfl⟩ : ∃ f2, f = f2 + 1 := ⟨f - 1, by omega⟩
        have hbs : Beside bx w8 (w8.setCell ⟨bx, 1, none⟩ (.int .i64 (RowKit.wrap64 ((k : Int) + 1)))) := (Beside.refl bx w8).setCell (p := ⟨bx, 1, none⟩) rfl _
        go_roundg (T.length + 1 - (k + 1))
        case measure => omega
        case rel => exact ⟨k + 1, f2, evs, rows, by omega, by omega, h300, P8.out.took hn, O8.out.beside (fun _ _ _ _ _ _ h => h.keep) hbs hlt, B8.out.trans hbs, Nat.le_trans S8.out hbs.size, HE.out⟩
      · by_cases h3 : evs.length = 300
        · have h3i : ((evs.length : Int) == 300) = true := by rw [h3]; rfl
          have HE := hid (HN.out.trans (hist_full hn h4 h3))
          have G := hid (fun w2 (b : Below w7.heap.size w7 w2) => giveUp_is bx k en 4 T w2 (P7.out.keep (b.mono P7.out.lt)))
          generalize lookT en T k = t at L h4
          have tf := tokf0 t.1 t.2.1 t.2.2.1 t.2.2.2
          go_wp2_with fail
          go_at_call 39
          refine L.out.mono ?_
          rintro e w8 ⟨rfl, b8⟩
          have B8 := hid b8
          clear b8
          go_wp2_with fail
          go_at_call 40
          refine (G.out _ B8.out).mono ?_
          rintro e w9 ⟨rfl, b9⟩
          refine ⟨rfl, ?_⟩
          show HistT bx w (pHist en (T.length + 1) T []) _ _
          rw [HE.out]
          exact ⟨rfl, (B7.out.trans (Beside.of_below B8.out)).trans (Beside.of_below b9)⟩
        · have h3i : ((evs.length : Int) == 300) = false := by rw [beq_eq_false_iff_ne]; omega
          have EV := hid (fun w2 (b : Below w7.heap.size w7 w2) => event_is bx k en T w2 (P7.out.keep (b.mono P7.out.lt)))
          cases hp : pEv en (T.drop k) with
          | error fe =>
            have HE := hid (HN.out.trans (hist_bad hn h4 h3 hp))
            rw [hp] at EV
            generalize lookT en T k = t at L h4
            have tf := tokf0 t.1 t.2.1 t.2.2.1 t.2.2.2
            go_wp2_with fail
            go_at_call 39
            refine L.out.mono ?_
            rintro e w8 ⟨rfl, b8⟩
            have B8 := hid b8
            clear b8
            go_wp2_with fail
            go_at_call 41
            refine (EV.out _ B8.out).mono ?_
            rintro e w9 ⟨rfl, b9⟩
            refine ⟨rfl, ?_⟩
            show HistT bx w (pHist en (T.length + 1) T []) _ _
            rw [HE.out]
            exact ⟨rfl, (B7.out.trans (Beside.of_below B8.out)).trans b9⟩
          | ok z =>
            obtain ⟨f2, rfl⟩ : ∃ f2, f = f2 + 1 := ⟨f - 1, by omega⟩
            obtain ⟨x, l9⟩ := z
            have HE := hid (HN.out.trans (hist_more hn h4 h3 hp))
            have HP := hid hp
            rw [hp] at EV
            clear hp
            generalize lookT en T k = t at L h4
            have tf := tokf0 t.1 t.2.1 t.2.2.1 t.2.2.2
            go_wp2_with fail
            go_at_call 39
            refine L.out.mono ?_
            rintro e w8 ⟨rfl, b8⟩
            have B8 := hid b8
            clear b8
            go_wp2_with fail
            go_at_call 41
            refine (EV.out _ B8.out).mono ?_
            rintro e w9 ⟨⟨m9, hm9, P9⟩, ⟨v9, rfl, hv9⟩, b9⟩
            obtain ⟨ov, rfl, hov⟩ := hv9
            obtain ⟨oa, oc, rfl, hov1, hov2⟩ := id hov
            clear hov1 hov2
            have hm9' : l9 = T.drop m9 := hm9
            subst hm9'
            have P9H := hid P9
            have B9 : Hid (Beside bx w7 w9) := (Beside.of_below B8.out).trans b9
            have V9 : Hid (OpsIn (fun b => w7.heap.size ≤ b) w9 (.slice oa x.ops.length oc) x.ops) := hov.keep (fun _ _ _ => rfl) (fun b _ hb => Nat.le_trans B8.out.size hb)
            have hlt9 := ev_lt hw hn HP.out
            clear hm9 P9 b9 hov HP
            have hs7 := S7.out
            have hs9 := B9.out.size
            have hbl : Below w9.heap.size w9 (w9.alloc (.cells #[.int .i64 x.kind, .int .i64 x.proc, .slice oa x.ops.length oc] 62)) := below_box w9 _
            have B9a : Hid (Beside bx w7 (w9.alloc (.cells #[.int .i64 x.kind, .int .i64 x.proc, .slice oa x.ops.length oc] 62))) := B9.out.trans (Beside.of_below hbl)
            have V9a : Hid (OpsIn (fun b => w7.heap.size ≤ b) (w9.alloc (.cells #[.int .i64 x.kind, .int .i64 x.proc, .slice oa x.ops.length oc] 62)) (.slice oa x.ops.length oc) x.ops) := V9.out.keep (keeps_below hbl) (fun _ _ h => h)
            have O9 := hid (O7.out.beside (fun _ _ _ _ _ _ h => h.keep) B9a.out hlt)
            clear hbl
            go_wp2_with (at_builtin; refine wpList_append_lies _ rfl _ _ 22 rfl w.heap.size 62 i0 _ 3 40 Tryz.underlying22 HI.out HZ0.out HZ1.out HZ2.out rfl (by decide) (.slice la evs.length lc) evs.length rows.flatten rfl O9.out.own ⟨w9.heap.size, 0, none⟩ 1 1 [.int .i64 x.kind, .int .i64 x.proc, .slice oa x.ops.length oc] rfl rfl (World.news_of_block (cs := #[.int .i64 x.kind, .int .i64 x.proc, .slice oa x.ops.length oc]) (t := 62) (fr := (0, 0)) (heap_alloc_new w9 _)) (by simp [Value.oneCell']) (by decide) (by unfold maxLen; omega) (by omega) (by simp; omega) (w9.heap.size + 1) (by simp) ?_; intro g cap w10 hown hgrow hat hglt)
            have O10 := O7.out.grow (fun _ _ _ _ _ _ h => h.keep) (row := [.int .i64 x.kind, .int .i64 x.proc, .slice oa x.ops.length oc]) (x := x) hs7 hlt B9a.out ⟨_, rfl, V9a.out⟩ rfl hown hgrow (by simpa using hat)
            have hgs : w9.heap.size < w10.heap.size := by have := hgrow.size; simp at this; omega
            have B910 : Below w.heap.size w9 w10 := ((Below.refl _ w9).alloc (by omega) _).grown hgrow (by simp; omega) (fun kk hk => (O7.out.own.lt kk hk).1)
            have O11 : OutInv 62 3 EvRow w.heap.size w10 (.slice (some ⟨g, 0, none⟩) (evs.length + 1) cap) (evs ++ [x]).length (rows ++ [[.int .i64 x.kind, .int .i64 x.proc, .slice oa x.ops.length oc]]) (evs ++ [x]) := by simpa using O10
            go_roundg (T.length + 1 - m9)
            case measure => omega
            case rel => exact ⟨m9, f2, evs ++ [x], rows ++ [[Value.int .i64 x.kind, .int .i64 x.proc, .slice oa x.ops.length oc]], by omega, by omega, by simp; omega, P9H.out.keep (B910.mono hlt), O11, (B7.out.trans B9.out).later B910, (by show w.heap.size ≤ w10.heap.size; omega), HE.out⟩
    · have hni : ¬ (k : Int) < (T.length : Int) := by omega
      have HE := hid (HN.out.trans (hist_end hn))
      go_wp2_with fail
      refine wp_region_quiet_below Tryz.mixedOrders (by kernel_rfl) ?_
      repeat (go_big_quiet_step (fail))
      refine wpQuiet_nil ?_
      intro w7 hw7
      obtain ⟨⟨V7, hb7⟩, hw8⟩ := hw7
      have hw9 : w7 = V7 := hw8
      subst hw9
      have b7b : Beside bx wr w7 := Beside.of_below hb7
      have B7 : Hid (Beside bx w w7) := BE.out.trans b7b
      have O7 := hid (OI.out.beside (fun _ _ _ _ _ _ h => h.keep) b7b hlt)
      clear hw8 v0 v1 bwS hb7 b7b
      go_wp2_with fail
      rw [HE.out]
      go_ret
      exact ⟨⟨_, rfl, O7.out.rows_in (bytes := 40) (fun _ _ _ _ _ _ h => h.keep) (by omega)⟩, B7.out⟩
end Go.Proofs.YtegeiojcdjnmjaaGreatDoor
namespace Go.Proofs.YtegeiojcdjnmjaaGreatDoor
set_option linter.unusedVariables false
set_option linter.unusedSimpArgs false
open Go.RowKit

/-- What the reference's token answers. -/
def refTokVal : Except (Nat × Nat) (MTok × Nat) → Value
  | .ok (t, k) => .tuple #[.agg #[.int .i64 t.1, .int .i64 t.2.1, .string t.2.2.1, .int .i64 t.2.2.2], .int .i64 k, .int .i64 0, .int .i64 0]
  | .error (a, y) => .tuple #[.agg #[.int .i64 0, .int .i64 0, .string ByteArray.empty, .int .i64 0], .int .i64 0, .int .i64 a, .int .i64 y]

theorem extract_one {s : ByteArray} {i c : Nat} (hi : i < s.size) (h : bt s i = c) : s.extract i (i + 1) = ⟨#[UInt8.ofNat c]⟩ := by
  have e := extract_bl s i (i + 1) (by omega)
  rw [show i + 1 - i = 1 by omega] at e
  simp only [bl, h] at e
  rw [ByteArray.ext_iff, ← Array.toList_inj, e]

theorem wEnd_from {s : ByteArray} {i k : Nat} (hs : isSm (bt s i) = true) (h : RunEnd isWd s (i + 1) k) : wEnd s i = k := by
  refine (wEnd_is s i).uniq ⟨by have := h.1; omega, fun j h1 h2 => ?_, h.2.2⟩
  by_cases e : j = i
  · rw [e]; simp [isWd, hs]
  · exact h.2.1 j (by omega) h2

theorem refNumber_any (s : ByteArray) (i : Nat) (w : World) (hs : s.size ≤ 20000) (hi : i < s.size) (h : isDg (bt s i) = true ∨ (bt s i = 45 ∧ isDg (bt s (i + 1)) = true)) :
    Calls Tryz.prog 70 #[.string s, .int .i64 i] w fun e w' => e = .returned (refNumVal (numM s i)) ∧ w = w' := by
  by_cases h45 : bt s i = 45
  · have hd : isDg (bt s (i + 1)) = true := by
      rcases h with h | h
      · rw [h45] at h; cases h
      · exact h.2
    have hfl : i + 1 < s.size := by
      by_cases hc : i + 1 < s.size
      · exact hc
      · rw [bt_out hc] at hd; cases hd
    exact (refNumber_neg s i w hs hi h45 hfl hd).mono fun _ _ h => ⟨h.1, h.2.symm⟩
  · have hd : isDg (bt s i) = true := by
      rcases h with h | h
      · exact h
      · exact absurd h.1 h45
    exact (refNumber_pos s i w hs hi h45 hd).mono fun _ _ h => ⟨h.1, h.2.symm⟩

set_option maxRecDepth 100000 in
set_option maxHeartbeats 4000000 in
/-- The reference's token. -/
theorem refToken_any (s : ByteArray) (i : Nat) (w : World) (hs : s.size ≤ 20000) (hi : i < s.size) :
    Calls Tryz.prog 42 #[.string s, .int .i64 i] w fun e w' => e = .returned (refTokVal (tokM s i)) ∧ Below w.heap.size w w' := by
  have hii : (i : Int) < (s.size : Int) := by omega
  by_cases hk : bt s i = 10
  · skip
    have HTK : Hid (tokM s i = .ok (((4 : Int), (i : Int), ⟨#[10]⟩, (0 : Int)), i + 1)) := by
      show tokM s i = _
      unfold tokM; rw [if_neg (by simp [hk, isSm]), if_neg (by simp [hk, isDg]), if_neg (by omega), if_pos hk, extract_one hi hk]; rfl
    have q10 : ((((s[i]'hi).toNat : Nat) : Int) == 10) = true := beq_iff_eq.2 (by rw [bt_get hi, hk]; rfl)
    clear hk
    go_enter Tryz.func42, Tryz.ntmps42
    go_wp2_with (first | (go_at_call 68; refine (at_c _ _ _ (by omega)).mono ?_; rintro e w' ⟨rfl, rfl⟩) | (go_at_call 69; refine (dg_c _ _).mono ?_; rintro e w' ⟨rfl, rfl⟩) | (go_at_call 67; refine (lt_c _ _).mono ?_; rintro e w' ⟨rfl, rfl⟩))
    rw [HTK.out]
    exact bodyPost_ret (v := .tuple #[.agg #[.int .i64 4, .int .i64 i, .string ⟨#[10]⟩, .int .i64 0], .int .i64 ((i + 1 : Nat) : Int), .int .i64 0, .int .i64 0]) (by simp [results, Tryz.results25, go_sem] <;> rfl) rfl ⟨rfl, (Below.refl _ w).alloc (Nat.le_refl _) _⟩
  have h10 := hk
  cases hsm : isSm (bt s i) with
  | true =>
    have hsmv := isSm_iff.1 hsm
    have q10 : ((((s[i]'hi).toNat : Nat) : Int) == 10) = false := beq_eq_false_iff_ne.2 (by rw [bt_get hi]; omega)
    have r0 : isSm (s[i]'hi).toNat = true := by rw [bt_get hi]; exact hsm
    go_enter Tryz.func42, Tryz.ntmps42
    go_wp2_with (first | (go_at_call 68; refine (at_c _ _ _ (by omega)).mono ?_; rintro e w' ⟨rfl, rfl⟩) | (go_at_call 69; refine (dg_c _ _).mono ?_; rintro e w' ⟨rfl, rfl⟩) | (go_at_call 67; refine (lt_c _ _).mono ?_; rintro e w' ⟨rfl, rfl⟩))
    go_loopg [9] (s.size - i) (fun g t wr => ∃ k : Nat, i + 1 ≤ k ∧ k ≤ s.size ∧ s.size - k ≤ g ∧ t = .int .i64 k ∧ wr = w.alloc (.cells #[.int .i64 0, .int .i64 0, .string ByteArray.empty, .int .i64 0] 57) ∧ Aside (∀ j, i + 1 ≤ j → j < k → isWd (bt s j) = true))
    case atStart => exact ⟨i + 1, Nat.le_refl _, by omega, by omega, by go_num, rfl, fun j h1 h2 => by omega⟩
    case round =>
      obtain ⟨k, hk1, hk2, hg, rfl, rfl, A⟩ := hrel
      have hlt_of : ∀ p : Nat → Bool, p 0 = false → p (bt s k) = true → k < s.size := fun p hp h => by
        by_cases hc : k < s.size
        · exact hc
        · rw [bt_out hc, hp] at h; cases h
      cases q1 : isSm (bt s k) with
      | true =>
        have hlt := hlt_of isSm rfl q1
        clear hlt_of
        go_wp2_with (first | (go_at_call 68; refine (at_c _ _ _ (by omega)).mono ?_; rintro e w' ⟨rfl, rfl⟩) | (go_at_call 69; refine (dg_c _ _).mono ?_; rintro e w' ⟨rfl, rfl⟩) | (go_at_call 67; refine (lt_c _ _).mono ?_; rintro e w' ⟨rfl, rfl⟩))
        go_roundg (s.size - (k + 1))
        case measure => omega
        case rel =>
          refine ⟨k + 1, by omega, by omega, by omega, by go_num, rfl, (show Aside _ from fun j h1 h2 => ?_)⟩
          by_cases e : j = k
          · subst e; simp [isWd, q1]
          · exact A.out j h1 (by omega)
      | false =>
        cases q2 : isDg (bt s k) with
        | true =>
          have hlt := hlt_of isDg rfl q2
          clear hlt_of
          go_wp2_with (first | (go_at_call 68; refine (at_c _ _ _ (by omega)).mono ?_; rintro e w' ⟨rfl, rfl⟩) | (go_at_call 69; refine (dg_c _ _).mono ?_; rintro e w' ⟨rfl, rfl⟩) | (go_at_call 67; refine (lt_c _ _).mono ?_; rintro e w' ⟨rfl, rfl⟩))
          go_roundg (s.size - (k + 1))
          case measure => omega
          case rel =>
            refine ⟨k + 1, by omega, by omega, by omega, by go_num, rfl, (show Aside _ from fun j h1 h2 => ?_)⟩
            by_cases e : j = k
            · subst e; simp [isWd, q2]
            · exact A.out j h1 (by omega)
        | false =>
          have HW : Hid (wEnd s i = k) := wEnd_from hsm ⟨hk1, A.out, by simp [isWd, q1, q2]⟩
          have HTK : Hid (tokM s i = .ok (((1 : Int), (i : Int), s.extract i k, (0 : Int)), k)) := by
            show tokM s i = _
            unfold tokM; rw [if_pos hsm, HW.out]
          have hE1 : (i : Int) ≤ (k : Int) := by omega
          have hE2 : (k : Int) ≤ (s.size : Int) := by omega
          clear hlt_of
          go_wp2_with (first | (go_at_call 68; refine (at_c _ _ _ (by omega)).mono ?_; rintro e w' ⟨rfl, rfl⟩) | (go_at_call 69; refine (dg_c _ _).mono ?_; rintro e w' ⟨rfl, rfl⟩) | (go_at_call 67; refine (lt_c _ _).mono ?_; rintro e w' ⟨rfl, rfl⟩))
          rw [HTK.out]
          exact bodyPost_ret (v := .tuple #[.agg #[.int .i64 1, .int .i64 i, .string (s.extract i k), .int .i64 0], .int .i64 ((k : Nat) : Int), .int .i64 0, .int .i64 0]) (by simp [results, Tryz.results25, go_sem] <;> rfl) rfl ⟨rfl, (Below.refl _ w).alloc (Nat.le_refl _) _⟩
  | false =>
    have hsmv := isSm_no.1 hsm
    cases hdg : isDg (bt s i) with
    | true =>
      have hdgv := isDg_iff.1 hdg
      have q10 : ((((s[i]'hi).toNat : Nat) : Int) == 10) = false := beq_eq_false_iff_ne.2 (by rw [bt_get hi]; omega)
      have r0 : isSm (s[i]'hi).toNat = false := by rw [bt_get hi]; exact hsm
      have r1 : isDg (s[i]'hi).toNat = true := by rw [bt_get hi]; exact hdg
      have hnum : bt s i = 45 ∨ isDg (bt s i) = true := .inr hdg
      have hpre : isDg (bt s i) = true ∨ (bt s i = 45 ∧ isDg (bt s (i + 1)) = true) := .inl hdg
      have hnc := refNumber_any s i (w.alloc (.cells #[.int .i64 0, .int .i64 0, .string ByteArray.empty, .int .i64 0] 57)) hs hi hpre
      cases hN : numM s i with
      | ok q =>
        obtain ⟨n, e⟩ := q
        have HTK : Hid (tokM s i = .ok (((2 : Int), (i : Int), s.extract i e, n), e)) := by
          show tokM s i = _
          unfold tokM; rw [if_neg (by simp [hsm]), if_pos hnum, hN]
        have hE := numM_gt hN hi
        have hE1 : (i : Int) ≤ (e : Int) := by omega
        have hE2 : (e : Int) ≤ (s.size : Int) := by omega
        rw [hN] at hnc
        simp only [refNumVal] at hnc
        have HC := hid hnc
        clear hN hnc
        go_enter Tryz.func42, Tryz.ntmps42
        go_wp2_with (first | (go_at_call 68; refine (at_c _ _ _ (by omega)).mono ?_; rintro e w' ⟨rfl, rfl⟩) | (go_at_call 69; refine (dg_c _ _).mono ?_; rintro e w' ⟨rfl, rfl⟩) | (go_at_call 67; refine (lt_c _ _).mono ?_; rintro e w' ⟨rfl, rfl⟩) | (go_at_call 70; refine HC.out.mono ?_; rintro e w' ⟨rfl, rfl⟩))
        rw [HTK.out]
        exact bodyPost_ret (v := .tuple #[.agg #[.int .i64 2, .int .i64 i, .string (s.extract i e), .int .i64 n], .int .i64 ((e : Nat) : Int), .int .i64 0, .int .i64 0]) (by simp [results, Tryz.results25, go_sem] <;> rfl) rfl ⟨rfl, (Below.refl _ w).alloc (Nat.le_refl _) _⟩
      | error q =>
        obtain ⟨a, y⟩ := q
        have HTK : Hid (tokM s i = .error (a, y)) := by
          show tokM s i = _
          unfold tokM; rw [if_neg (by simp [hsm]), if_pos hnum, hN]
        have hy := numM_err hN
        rw [hN] at hnc
        simp only [refNumVal] at hnc
        have HC := hid hnc
        clear hN hnc
        go_enter Tryz.func42, Tryz.ntmps42
        go_wp2_with (first | (go_at_call 68; refine (at_c _ _ _ (by omega)).mono ?_; rintro e w' ⟨rfl, rfl⟩) | (go_at_call 69; refine (dg_c _ _).mono ?_; rintro e w' ⟨rfl, rfl⟩) | (go_at_call 67; refine (lt_c _ _).mono ?_; rintro e w' ⟨rfl, rfl⟩) | (go_at_call 70; refine HC.out.mono ?_; rintro e w' ⟨rfl, rfl⟩))
        rw [HTK.out]
        exact bodyPost_ret (v := .tuple #[.agg #[.int .i64 0, .int .i64 0, .string ByteArray.empty, .int .i64 0], .int .i64 0, .int .i64 ((a : Nat) : Int), .int .i64 ((y : Nat) : Int)]) (by simp [results, Tryz.results25, go_sem] <;> rfl) rfl ⟨rfl, (Below.refl _ w).alloc (Nat.le_refl _) _⟩
    | false =>
      have hdgv := isDg_no.1 hdg
      by_cases h45 : bt s i = 45
      · cases hd1 : isDg (bt s (i + 1)) with
        | true =>
          have q10 : ((((s[i]'hi).toNat : Nat) : Int) == 10) = false := beq_eq_false_iff_ne.2 (by rw [bt_get hi]; omega)
          have r0 : isSm (s[i]'hi).toNat = false := by rw [bt_get hi]; exact hsm
          have r1 : isDg (s[i]'hi).toNat = false := by rw [bt_get hi]; exact hdg
          have q45 : ((((s[i]'hi).toNat : Nat) : Int) == 45) = true := beq_iff_eq.2 (by rw [bt_get hi, h45]; rfl)
          have hnum : bt s i = 45 ∨ isDg (bt s i) = true := .inl h45
          have hpre : isDg (bt s i) = true ∨ (bt s i = 45 ∧ isDg (bt s (i + 1)) = true) := .inr ⟨h45, hd1⟩
          have hnc := refNumber_any s i (w.alloc (.cells #[.int .i64 0, .int .i64 0, .string ByteArray.empty, .int .i64 0] 57)) hs hi hpre
          cases hN : numM s i with
          | ok q =>
            obtain ⟨n, e⟩ := q
            have HTK : Hid (tokM s i = .ok (((2 : Int), (i : Int), s.extract i e, n), e)) := by
              show tokM s i = _
              unfold tokM; rw [if_neg (by simp [hsm]), if_pos hnum, hN]
            have hE := numM_gt hN hi
            have hE1 : (i : Int) ≤ (e : Int) := by omega
            have hE2 : (e : Int) ≤ (s.size : Int) := by omega
            rw [hN] at hnc
            simp only [refNumVal] at hnc
            have HC := hid hnc
            clear hN hnc
            go_enter Tryz.func42, Tryz.ntmps42
            go_wp2_with (first | (go_at_call 68; refine (at_c _ _ _ (by omega)).mono ?_; rintro e w' ⟨rfl, rfl⟩) | (go_at_call 69; refine (dg_c _ _).mono ?_; rintro e w' ⟨rfl, rfl⟩) | (go_at_call 67; refine (lt_c _ _).mono ?_; rintro e w' ⟨rfl, rfl⟩) | (go_at_call 70; refine HC.out.mono ?_; rintro e w' ⟨rfl, rfl⟩))
            rw [HTK.out]
            exact bodyPost_ret (v := .tuple #[.agg #[.int .i64 2, .int .i64 i, .string (s.extract i e), .int .i64 n], .int .i64 ((e : Nat) : Int), .int .i64 0, .int .i64 0]) (by simp [results, Tryz.results25, go_sem] <;> rfl) rfl ⟨rfl, (Below.refl _ w).alloc (Nat.le_refl _) _⟩
          | error q =>
            obtain ⟨a, y⟩ := q
            have HTK : Hid (tokM s i = .error (a, y)) := by
              show tokM s i = _
              unfold tokM; rw [if_neg (by simp [hsm]), if_pos hnum, hN]
            have hy := numM_err hN
            rw [hN] at hnc
            simp only [refNumVal] at hnc
            have HC := hid hnc
            clear hN hnc
            go_enter Tryz.func42, Tryz.ntmps42
            go_wp2_with (first | (go_at_call 68; refine (at_c _ _ _ (by omega)).mono ?_; rintro e w' ⟨rfl, rfl⟩) | (go_at_call 69; refine (dg_c _ _).mono ?_; rintro e w' ⟨rfl, rfl⟩) | (go_at_call 67; refine (lt_c _ _).mono ?_; rintro e w' ⟨rfl, rfl⟩) | (go_at_call 70; refine HC.out.mono ?_; rintro e w' ⟨rfl, rfl⟩))
            rw [HTK.out]
            exact bodyPost_ret (v := .tuple #[.agg #[.int .i64 0, .int .i64 0, .string ByteArray.empty, .int .i64 0], .int .i64 0, .int .i64 ((a : Nat) : Int), .int .i64 ((y : Nat) : Int)]) (by simp [results, Tryz.results25, go_sem] <;> rfl) rfl ⟨rfl, (Below.refl _ w).alloc (Nat.le_refl _) _⟩
        | false =>
          have HTK : Hid (tokM s i = .error (i, 10)) := by
            show tokM s i = _
            unfold tokM; rw [if_neg (by simp [hsm]), if_pos (.inl h45), numM_bad ⟨h45, by
              have := isDg_no.1 hd1
              have hf : nF s i = i + 1 := by unfold nF; rw [if_pos h45]
              rw [hf]; omega⟩]
          have q10 : ((((s[i]'hi).toNat : Nat) : Int) == 10) = false := beq_eq_false_iff_ne.2 (by rw [bt_get hi]; omega)
          have r0 : isSm (s[i]'hi).toNat = false := by rw [bt_get hi]; exact hsm
          have r1 : isDg (s[i]'hi).toNat = false := by rw [bt_get hi]; exact hdg
          have q45 : ((((s[i]'hi).toNat : Nat) : Int) == 45) = true := beq_iff_eq.2 (by rw [bt_get hi, h45]; rfl)
          have q40 : ((((s[i]'hi).toNat : Nat) : Int) == 40) = false := beq_eq_false_iff_ne.2 (by rw [bt_get hi]; omega)
          have q41 : ((((s[i]'hi).toNat : Nat) : Int) == 41) = false := beq_eq_false_iff_ne.2 (by rw [bt_get hi]; omega)
          have q91 : ((((s[i]'hi).toNat : Nat) : Int) == 91) = false := beq_eq_false_iff_ne.2 (by rw [bt_get hi]; omega)
          have q93 : ((((s[i]'hi).toNat : Nat) : Int) == 93) = false := beq_eq_false_iff_ne.2 (by rw [bt_get hi]; omega)
          go_enter Tryz.func42, Tryz.ntmps42
          go_wp2_with (first | (go_at_call 68; refine (at_c _ _ _ (by omega)).mono ?_; rintro e w' ⟨rfl, rfl⟩) | (go_at_call 69; refine (dg_c _ _).mono ?_; rintro e w' ⟨rfl, rfl⟩) | (go_at_call 67; refine (lt_c _ _).mono ?_; rintro e w' ⟨rfl, rfl⟩))
          rw [HTK.out]
          exact bodyPost_ret (v := .tuple #[.agg #[.int .i64 0, .int .i64 0, .string ByteArray.empty, .int .i64 0], .int .i64 0, .int .i64 ((i : Nat) : Int), .int .i64 (10)]) (by simp [results, Tryz.results25, go_sem] <;> rfl) rfl ⟨rfl, (Below.refl _ w).alloc (Nat.le_refl _) _⟩
      by_cases hk : bt s i = 40
      · skip
        have HTK : Hid (tokM s i = .ok (((3 : Int), (i : Int), s.extract i (i + 1), (0 : Int)), i + 1)) := by
          show tokM s i = _
          unfold tokM; rw [if_neg (by simp [hsm]), if_neg (by simp [hdg]; omega), if_pos (by omega)]
        have q10 : ((((s[i]'hi).toNat : Nat) : Int) == 10) = false := beq_eq_false_iff_ne.2 (by rw [bt_get hi]; omega)
        have r0 : isSm (s[i]'hi).toNat = false := by rw [bt_get hi]; exact hsm
        have r1 : isDg (s[i]'hi).toNat = false := by rw [bt_get hi]; exact hdg
        have q45 : ((((s[i]'hi).toNat : Nat) : Int) == 45) = false := beq_eq_false_iff_ne.2 (by rw [bt_get hi]; omega)
        have q40 : ((((s[i]'hi).toNat : Nat) : Int) == 40) = true := beq_iff_eq.2 (by rw [bt_get hi, hk]; rfl)
        have hE1 : (i : Int) ≤ (i : Int) + 1 := by omega
        have hE2 : (i : Int) + 1 ≤ (s.size : Int) := by omega
        go_enter Tryz.func42, Tryz.ntmps42
        go_wp2_with (first | (go_at_call 68; refine (at_c _ _ _ (by omega)).mono ?_; rintro e w' ⟨rfl, rfl⟩) | (go_at_call 69; refine (dg_c _ _).mono ?_; rintro e w' ⟨rfl, rfl⟩) | (go_at_call 67; refine (lt_c _ _).mono ?_; rintro e w' ⟨rfl, rfl⟩))
        rw [HTK.out]
        exact bodyPost_ret (v := .tuple #[.agg #[.int .i64 3, .int .i64 i, .string (s.extract i (i + 1)), .int .i64 0], .int .i64 ((i + 1 : Nat) : Int), .int .i64 0, .int .i64 0]) (by simp [results, Tryz.results25, go_sem] <;> rfl) rfl ⟨rfl, (Below.refl _ w).alloc (Nat.le_refl _) _⟩
      by_cases hk : bt s i = 41
      · skip
        have HTK : Hid (tokM s i = .ok (((3 : Int), (i : Int), s.extract i (i + 1), (0 : Int)), i + 1)) := by
          show tokM s i = _
          unfold tokM; rw [if_neg (by simp [hsm]), if_neg (by simp [hdg]; omega), if_pos (by omega)]
        have q10 : ((((s[i]'hi).toNat : Nat) : Int) == 10) = false := beq_eq_false_iff_ne.2 (by rw [bt_get hi]; omega)
        have r0 : isSm (s[i]'hi).toNat = false := by rw [bt_get hi]; exact hsm
        have r1 : isDg (s[i]'hi).toNat = false := by rw [bt_get hi]; exact hdg
        have q45 : ((((s[i]'hi).toNat : Nat) : Int) == 45) = false := beq_eq_false_iff_ne.2 (by rw [bt_get hi]; omega)
        have q40 : ((((s[i]'hi).toNat : Nat) : Int) == 40) = false := beq_eq_false_iff_ne.2 (by rw [bt_get hi]; omega)
        have q41 : ((((s[i]'hi).toNat : Nat) : Int) == 41) = true := beq_iff_eq.2 (by rw [bt_get hi, hk]; rfl)
        have hE1 : (i : Int) ≤ (i : Int) + 1 := by omega
        have hE2 : (i : Int) + 1 ≤ (s.size : Int) := by omega
        go_enter Tryz.func42, Tryz.ntmps42
        go_wp2_with (first | (go_at_call 68; refine (at_c _ _ _ (by omega)).mono ?_; rintro e w' ⟨rfl, rfl⟩) | (go_at_call 69; refine (dg_c _ _).mono ?_; rintro e w' ⟨rfl, rfl⟩) | (go_at_call 67; refine (lt_c _ _).mono ?_; rintro e w' ⟨rfl, rfl⟩))
        rw [HTK.out]
        exact bodyPost_ret (v := .tuple #[.agg #[.int .i64 3, .int .i64 i, .string (s.extract i (i + 1)), .int .i64 0], .int .i64 ((i + 1 : Nat) : Int), .int .i64 0, .int .i64 0]) (by simp [results, Tryz.results25, go_sem] <;> rfl) rfl ⟨rfl, (Below.refl _ w).alloc (Nat.le_refl _) _⟩
      by_cases hk : bt s i = 91
      · skip
        have HTK : Hid (tokM s i = .ok (((3 : Int), (i : Int), s.extract i (i + 1), (0 : Int)), i + 1)) := by
          show tokM s i = _
          unfold tokM; rw [if_neg (by simp [hsm]), if_neg (by simp [hdg]; omega), if_pos (by omega)]
        have q10 : ((((s[i]'hi).toNat : Nat) : Int) == 10) = false := beq_eq_false_iff_ne.2 (by rw [bt_get hi]; omega)
        have r0 : isSm (s[i]'hi).toNat = false := by rw [bt_get hi]; exact hsm
        have r1 : isDg (s[i]'hi).toNat = false := by rw [bt_get hi]; exact hdg
        have q45 : ((((s[i]'hi).toNat : Nat) : Int) == 45) = false := beq_eq_false_iff_ne.2 (by rw [bt_get hi]; omega)
        have q40 : ((((s[i]'hi).toNat : Nat) : Int) == 40) = false := beq_eq_false_iff_ne.2 (by rw [bt_get hi]; omega)
        have q41 : ((((s[i]'hi).toNat : Nat) : Int) == 41) = false := beq_eq_false_iff_ne.2 (by rw [bt_get hi]; omega)
        have q91 : ((((s[i]'hi).toNat : Nat) : Int) == 91) = true := beq_iff_eq.2 (by rw [bt_get hi, hk]; rfl)
        have hE1 : (i : Int) ≤ (i : Int) + 1 := by omega
        have hE2 : (i : Int) + 1 ≤ (s.size : Int) := by omega
        go_enter Tryz.func42, Tryz.ntmps42
        go_wp2_with (first | (go_at_call 68; refine (at_c _ _ _ (by omega)).mono ?_; rintro e w' ⟨rfl, rfl⟩) | (go_at_call 69; refine (dg_c _ _).mono ?_; rintro e w' ⟨rfl, rfl⟩) | (go_at_call 67; refine (lt_c _ _).mono ?_; rintro e w' ⟨rfl, rfl⟩))
        rw [HTK.out]
        exact bodyPost_ret (v := .tuple #[.agg #[.int .i64 3, .int .i64 i, .string (s.extract i (i + 1)), .int .i64 0], .int .i64 ((i + 1 : Nat) : Int), .int .i64 0, .int .i64 0]) (by simp [results, Tryz.results25, go_sem] <;> rfl) rfl ⟨rfl, (Below.refl _ w).alloc (Nat.le_refl _) _⟩
      by_cases hk : bt s i = 93
      · skip
        have HTK : Hid (tokM s i = .ok (((3 : Int), (i : Int), s.extract i (i + 1), (0 : Int)), i + 1)) := by
          show tokM s i = _
          unfold tokM; rw [if_neg (by simp [hsm]), if_neg (by simp [hdg]; omega), if_pos (by omega)]
        have q10 : ((((s[i]'hi).toNat : Nat) : Int) == 10) = false := beq_eq_false_iff_ne.2 (by rw [bt_get hi]; omega)
        have r0 : isSm (s[i]'hi).toNat = false := by rw [bt_get hi]; exact hsm
        have r1 : isDg (s[i]'hi).toNat = false := by rw [bt_get hi]; exact hdg
        have q45 : ((((s[i]'hi).toNat : Nat) : Int) == 45) = false := beq_eq_false_iff_ne.2 (by rw [bt_get hi]; omega)
        have q40 : ((((s[i]'hi).toNat : Nat) : Int) == 40) = false := beq_eq_false_iff_ne.2 (by rw [bt_get hi]; omega)
        have q41 : ((((s[i]'hi).toNat : Nat) : Int) == 41) = false := beq_eq_false_iff_ne.2 (by rw [bt_get hi]; omega)
        have q91 : ((((s[i]'hi).toNat : Nat) : Int) == 91) = false := beq_eq_false_iff_ne.2 (by rw [bt_get hi]; omega)
        have q93 : ((((s[i]'hi).toNat : Nat) : Int) == 93) = true := beq_iff_eq.2 (by rw [bt_get hi, hk]; rfl)
        have hE1 : (i : Int) ≤ (i : Int) + 1 := by omega
        have hE2 : (i : Int) + 1 ≤ (s.size : Int) := by omega
        go_enter Tryz.func42, Tryz.ntmps42
        go_wp2_with (first | (go_at_call 68; refine (at_c _ _ _ (by omega)).mono ?_; rintro e w' ⟨rfl, rfl⟩) | (go_at_call 69; refine (dg_c _ _).mono ?_; rintro e w' ⟨rfl, rfl⟩) | (go_at_call 67; refine (lt_c _ _).mono ?_; rintro e w' ⟨rfl, rfl⟩))
        rw [HTK.out]
        exact bodyPost_ret (v := .tuple #[.agg #[.int .i64 3, .int .i64 i, .string (s.extract i (i + 1)), .int .i64 0], .int .i64 ((i + 1 : Nat) : Int), .int .i64 0, .int .i64 0]) (by simp [results, Tryz.results25, go_sem] <;> rfl) rfl ⟨rfl, (Below.refl _ w).alloc (Nat.le_refl _) _⟩
      · skip
        have HTK : Hid (tokM s i = .error (i, 10)) := by
          show tokM s i = _
          unfold tokM; rw [if_neg (by simp [hsm]), if_neg (by simp [hdg]; omega), if_neg (by omega), if_neg h10]
        have q10 : ((((s[i]'hi).toNat : Nat) : Int) == 10) = false := beq_eq_false_iff_ne.2 (by rw [bt_get hi]; omega)
        have r0 : isSm (s[i]'hi).toNat = false := by rw [bt_get hi]; exact hsm
        have r1 : isDg (s[i]'hi).toNat = false := by rw [bt_get hi]; exact hdg
        have q45 : ((((s[i]'hi).toNat : Nat) : Int) == 45) = false := beq_eq_false_iff_ne.2 (by rw [bt_get hi]; omega)
        have q40 : ((((s[i]'hi).toNat : Nat) : Int) == 40) = false := beq_eq_false_iff_ne.2 (by rw [bt_get hi]; omega)
        have q41 : ((((s[i]'hi).toNat : Nat) : Int) == 41) = false := beq_eq_false_iff_ne.2 (by rw [bt_get hi]; omega)
        have q91 : ((((s[i]'hi).toNat : Nat) : Int) == 91) = false := beq_eq_false_iff_ne.2 (by rw [bt_get hi]; omega)
        have q93 : ((((s[i]'hi).toNat : Nat) : Int) == 93) = false := beq_eq_false_iff_ne.2 (by rw [bt_get hi]; omega)
        go_enter Tryz.func42, Tryz.ntmps42
        go_wp2_with (first | (go_at_call 68; refine (at_c _ _ _ (by omega)).mono ?_; rintro e w' ⟨rfl, rfl⟩) | (go_at_call 69; refine (dg_c _ _).mono ?_; rintro e w' ⟨rfl, rfl⟩) | (go_at_call 67; refine (lt_c _ _).mono ?_; rintro e w' ⟨rfl, rfl⟩))
        rw [HTK.out]
        exact bodyPost_ret (v := .tuple #[.agg #[.int .i64 0, .int .i64 0, .string ByteArray.empty, .int .i64 0], .int .i64 0, .int .i64 ((i : Nat) : Int), .int .i64 (10)]) (by simp [results, Tryz.results25, go_sem] <;> rfl) rfl ⟨rfl, (Below.refl _ w).alloc (Nat.le_refl _) _⟩
end Go.Proofs.YtegeiojcdjnmjaaGreatDoor
