/-
  A history's tokens are read as it: plain.
  The code's parser of a history's text: the history.
  Walk of the reference's token.
  Walk of the reference's Scan.
  Walks of what holds errors and lists of tokens against one another.
-/
import Derived.Test.YtfgbjghfkdmcjaaGreatDoorF6
import Derived.Test.YtfgbjghfkdmcjaaGreatDoorF8
import Derived.Test.YtfgbjghfkdmcjaaGreatDoorF12
import Derived.Test.YtfgbjghfkdmcjaaGreatDoorF4
import Derived.Test.YtfgbjghfkdmcjaaGreatDoorF3
import Derived.Laws.StructEq
namespace Go.Proofs.YtfgbjghfkdmcjaaGreatDoor
set_option linter.unusedVariables false
set_option linter.unusedSimpArgs false
open Go.RowKit

section
variable {en : Int}
theorem sees_word (s x : ByteArray) (r : List MTok) : seesP (wordT s :: r) 1 x = (s.data.toList == x.data.toList) := by
  show ((1 : Int) == 1 && s.toList == x.toList) = _
  rw [ByteArray.toList_eq, ByteArray.toList_eq]; rfl
theorem sees_mark (b : UInt8) (x : ByteArray) (r : List MTok) : seesP (markT b :: r) 3 x = ([b] == x.data.toList) := by
  show ((3 : Int) == 3 && ByteArray.toList ⟨#[b]⟩ == x.toList) = _
  rw [ByteArray.toList_eq, ByteArray.toList_eq]; rfl
theorem sees_off {t : MTok} {k : Int} {x : ByteArray} {r : List MTok} (h : t.1 ≠ k) : seesP (t :: r) k x = false := by
  show (t.1 == k && _) = false
  have : (t.1 == k) = false := by simpa using h
  rw [this, Bool.false_and]
theorem read_mark (b : UInt8) (r : List MTok) : pMark en ⟨#[b]⟩ (markT b :: r) = .ok ((), r) := by
  unfold pMark
  rw [sees_mark, if_pos (by simp)]
  rfl
theorem read_num (n : Int) (r : List MTok) : pNum en (numT n :: r) = .ok (n, r) := rfl
theorem read_key {s : ByteArray} (h : keyOk s = true) (r : List MTok) : pKey en (wordT s :: r) = .ok (s, r) := if_pos ⟨rfl, h⟩
theorem read_proc {n : Int} (h : 0 ≤ n ∧ n ≤ 99) (r : List MTok) : pProc en (numT n :: r) = .ok (n, r) := if_pos ⟨rfl, h⟩
theorem read_opk {k : Int} (h : 1 ≤ k ∧ k ≤ 4) (r : List MTok) : pKind en (wordT (opWord k) :: r) 0 pOpWords = .ok (k, r) := by
  have : k = 1 ∨ k = 2 ∨ k = 3 ∨ k = 4 := by omega
  rcases this with rfl | rfl | rfl | rfl <;> simp [pKind, sees_word, opWord]
theorem read_evk {k : Int} (h : 1 ≤ k ∧ k ≤ 4) (r : List MTok) : pKind en (wordT (evWord k) :: r) 0 pEvWords = .ok (k, r) := by
  have : k = 1 ∨ k = 2 ∨ k = 3 ∨ k = 4 := by omega
  rcases this with rfl | rfl | rfl | rfl <;> simp [pKind, sees_word, evWord]
theorem read_nums : ∀ (xs acc : List Int) (t : MTok) (r : List MTok), acc.length + xs.length ≤ 40 → t.1 ≠ 2 → pNums en (xs.map numT ++ t :: r) acc = .ok (acc ++ xs, t :: r)
  | [], acc, t, r, h, ht => by
    show (if t.1 = 2 then _ else _) = _
    rw [if_neg ht, List.append_nil]
  | x :: xs, acc, t, r, h, ht => by
    simp only [List.length_cons] at h
    have ih := read_nums xs (acc ++ [x]) t r (by simp; omega) ht
    show (if (2 : Int) = 2 then (if acc.length = 40 then pFail en 4 _ else pNums en (xs.map numT ++ t :: r) (acc ++ [x])) else _) = _
    rw [if_pos rfl, if_neg (by omega), ih]
    simp
theorem read_list {xs : List Int} (h : xs.length ≤ 40) (r : List MTok) : pList en (markT 40 :: (xs.map numT ++ markT 41 :: r)) = .ok (xs, r) := by
  unfold pList
  rw [read_mark]
  show (andP (pNums en (xs.map numT ++ markT 41 :: r) []) fun xs l2 => andP (pMark en ⟨#[41]⟩ l2) fun _ l3 => .ok (xs, l3)) = _
  rw [read_nums xs [] (markT 41) r (by simpa using h) (by decide)]
  show (andP (pMark en ⟨#[41]⟩ (markT 41 :: r)) fun _ l3 => .ok ([] ++ xs, l3)) = _
  rw [read_mark]
  rfl
theorem read_mid {o : MOp} (h : opOk o = true) (r : List MTok) : pMid en o.kind o.key (midT o ++ markT 93 :: r) = .ok (o, markT 93 :: r) := by
  obtain ⟨k, s, x, xs, hs, nl⟩ := o
  unfold opOk at h
  simp only [MOp.kind, MOp.key, MOp.value, MOp.has, MOp.nl, MOp.list, len] at *
  by_cases h13 : k = 1 ∨ k = 3
  · have e : (k == 1 || k == 3) = true := by rcases h13 with rfl | rfl <;> rfl
    rw [if_pos e] at h
    simp only [Bool.and_eq_true, beq_iff_eq, Bool.not_eq_true'] at h
    obtain ⟨h1, h2, h3⟩ := h
    have hx : xs = [] := List.eq_nil_of_length_eq_zero (by simpa using h1)
    subst hx h2 h3
    have hm : midT (k, s, x, [], false, false) = [numT x] := by unfold midT; rw [if_pos h13]
    rw [hm]
    unfold pMid
    rw [if_pos h13]
    rfl
  · have e : (k == 1 || k == 3) = false := by
      rw [not_or] at h13
      simp [h13.1, h13.2]
    rw [e] at h
    simp only [Bool.false_eq_true, if_false] at h
    by_cases h2 : k = 2
    · subst h2
      simp only [beq_self_eq_true, if_true, Bool.and_eq_true, beq_iff_eq, Bool.not_eq_true', decide_eq_true_eq, Bool.or_eq_true] at h
      obtain ⟨h1, h2, h3, h4⟩ := h
      subst h1 h2
      cases hs with
      | false =>
        have hx : xs = [] := by
          rcases h4 with h4 | h4
          · cases h4
          · exact List.eq_nil_of_length_eq_zero (by simpa using h4)
        subst hx
        show pMid en 2 s (markT 93 :: r) = _
        exact pMid_2no (by rw [sees_mark]; rfl)
      | true =>
        have hm : midT (2, s, 0, xs, true, false) = [markT 40] ++ xs.map numT ++ [markT 41] := rfl
        rw [hm]
        have hl : [markT 40] ++ xs.map numT ++ [markT 41] ++ markT 93 :: r = markT 40 :: (xs.map numT ++ markT 41 :: markT 93 :: r) := by simp
        rw [hl, pMid_2yes (by rw [sees_mark]; rfl), read_list (by omega)]
        rfl
    · have e2 : (k == 2) = false := by simpa using h2
      rw [e2] at h
      simp only [Bool.false_eq_true, if_false] at h
      by_cases h4 : k = 4
      · subst h4
        simp only [beq_self_eq_true, if_true, Bool.and_eq_true, beq_iff_eq, Bool.not_eq_true', Bool.or_eq_true] at h
        obtain ⟨h1, h2, h3⟩ := h
        have hx : xs = [] := List.eq_nil_of_length_eq_zero (by simpa using h1)
        subst hx
        cases hs with
        | false =>
          have hn : nl = false := by simpa using h2
          have hx0 : x = 0 := by simpa using h3
          subst hn hx0
          show pMid en 4 s (markT 93 :: r) = _
          unfold pMid
          rw [if_neg (by omega), if_pos rfl, sees_off (show (3 : Int) ≠ 1 by decide)]
          rfl
        | true =>
          cases nl with
          | true =>
            have hx0 : x = 0 := by simpa using h3
            subst hx0
            show pMid en 4 s (wordT ⟨#[110, 105, 108]⟩ :: markT 93 :: r) = _
            exact pMid_4nil (by rw [sees_word]; rfl)
          | false =>
            show pMid en 4 s (numT x :: markT 93 :: r) = _
            unfold pMid
            rw [if_neg (by omega), if_pos rfl, sees_off (show (2 : Int) ≠ 1 by decide)]
            rfl
      · have e4 : (k == 4) = false := by simpa using h4
        rw [e4] at h
        cases h
theorem read_op {o : MOp} (hk : keyOk o.key = true) (h : opOk o = true) (r : List MTok) : pOp en (opT o ++ r) = .ok (o, r) := by
  have hl : opT o ++ r = markT 91 :: wordT (opWord o.kind) :: wordT o.key :: (midT o ++ markT 93 :: r) := by simp [opT]
  rw [hl, pOp_A, and_ok (read_mark 91 _)]
  unfold pOpA
  rw [and_ok (read_opk (opOk_list h).2 _)]
  unfold pOpB
  rw [and_ok (read_key hk _)]
  unfold pOpC
  rw [and_ok (read_mid h r)]
  unfold pOpD
  rw [and_ok (read_mark 93 r)]
theorem read_ops : ∀ (os acc : List MOp) (f : Nat) (r : List MTok), (∀ o ∈ os, keyOk o.key = true ∧ opOk o = true) → acc.length + os.length ≤ 8 → os.length < f → pOps en f (os.flatMap opT ++ lineT :: r) acc = .ok (acc ++ os, lineT :: r)
  | os, acc, 0, r, _, _, hf => by omega
  | [], acc, f + 1, r, _, h8, hf => by
    rw [show ([] : List MOp).flatMap opT ++ lineT :: r = lineT :: r from rfl, pOps_end (sees_off (by decide)), List.append_nil]
  | o :: os, acc, f + 1, r, ho, h8, hf => by
    simp only [List.length_cons] at h8 hf
    have hl : (o :: os).flatMap opT ++ lineT :: r = opT o ++ (os.flatMap opT ++ lineT :: r) := by simp
    have hs : seesP (opT o ++ (os.flatMap opT ++ lineT :: r)) 3 ⟨#[91]⟩ = true := by
      show seesP (markT 91 :: _) 3 ⟨#[91]⟩ = true
      rw [sees_mark]; rfl
    rw [hl, pOps_more hs (by omega), and_ok (read_op (ho o (List.mem_cons_self ..)).1 (ho o (List.mem_cons_self ..)).2 _)]
    rw [read_ops os (acc ++ [o]) f r (fun x hx => ho x (List.mem_cons_of_mem _ hx)) (by simp; omega) (by omega)]
    simp
theorem read_ev {e : MEv} (h : evOk e = true) (r : List MTok) : pEv en (evT e ++ r) = .ok (e, lineT :: r) := by
  obtain ⟨hh, ho⟩ := ev_parts h
  obtain ⟨k, p, os⟩ := e
  unfold evHead at hh
  simp only [MEv.kind, MEv.proc, MEv.ops] at *
  cases os with
  | nil => simp at hh
  | cons o os =>
    have hl : evT (k, p, o :: os) ++ r = wordT (evWord k) :: numT p :: (opT o ++ (os.flatMap opT ++ lineT :: r)) := by simp [evT, MEv.kind, MEv.proc, MEv.ops]
    rw [hl, pEv_0, and_ok (read_evk (by omega) _), pEvB_1, and_ok (read_proc (by omega) _)]
    unfold pE1
    rw [and_ok (read_op (ho o (List.mem_cons_self ..)).1 (ho o (List.mem_cons_self ..)).2 _)]
    unfold pE2
    rw [read_ops os [o] 10 r (fun x hx => ho x (List.mem_cons_of_mem _ hx)) (by simp only [List.length_cons] at hh; simp; omega) (by simp only [List.length_cons] at hh; omega)]
    rfl
theorem read_hist : ∀ (l out : List MEv) (f : Nat), (∀ e ∈ l, evOk e = true) → out.length + l.length ≤ 300 → 2 * l.length < f → pHist en f (toksOf l) out = .ok (out ++ l)
  | l, out, 0, _, _, hf => by omega
  | [], out, f + 1, _, _, _ => by rw [show toksOf [] = [] from rfl, pHist_nil, List.append_nil]
  | e :: l, out, f + 1, he, h3, hf => by
    simp only [List.length_cons] at h3 hf
    have hl : toksOf (e :: l) = evT e ++ toksOf l := by simp [toksOf]
    have hr := read_ev (en := en) (he e (List.mem_cons_self ..)) (toksOf l)
    obtain ⟨f2, rfl⟩ : ∃ f2, f = f2 + 1 := ⟨f - 1, by omega⟩
    rw [hl]
    have hc : evT e ++ toksOf l = wordT (evWord e.kind) :: (numT e.proc :: (e.ops.flatMap opT ++ lineT :: toksOf l)) := by simp [evT]
    rw [hc] at hr ⊢
    rw [pHist_more _ _ _ _ _ (show ¬ (1 : Int) = 4 by decide) (by omega) hr]
    show pHist en (f2 + 1) (lineT :: toksOf l) (out ++ [e]) = _
    rw [pHist_line _ _ _ _ rfl, read_hist l (out ++ [e]) f2 (fun x hx => he x (List.mem_cons_of_mem _ hx)) (by simp; omega) (by omega)]
    simp
end
/-- A token with its bytes as a text has them. -/
def fullT (t : MTok) : MTok := if t.1 = 2 then (2, 0, ⟨(decimal t.2.2.2).toArray⟩, t.2.2.2) else if t.1 = 4 then (4, 0, ⟨#[10]⟩, 0) else t
theorem full_kind (t : MTok) : (fullT t).1 = t.1 := by
  unfold fullT
  split
  · rename_i h; rw [h]
  · split
    · rename_i h; rw [h]
    · rfl
theorem print_full : ∀ (l : List MTok) (il : Bool), printL il (l.map fullT) = printL il l
  | [], il => rfl
  | t :: l, il => by
    rw [List.map_cons]
    unfold printL
    rw [full_kind]
    by_cases h1 : t.1 = 1 ∨ t.1 = 3
    · rw [if_pos h1, if_pos h1, print_full l true]
      have : fullT t = t := by unfold fullT; rw [if_neg (by omega), if_neg (by omega)]
      rw [this]
    · rw [if_neg h1, if_neg h1]
      by_cases h2 : t.1 = 2
      · rw [if_pos h2, if_pos h2, print_full l true]
        have : fullT t = (2, 0, ⟨(decimal t.2.2.2).toArray⟩, t.2.2.2) := by unfold fullT; rw [if_pos h2]
        rw [this]
      · rw [if_neg h2, if_neg h2]
        by_cases h4 : t.1 = 4
        · rw [if_pos h4, if_pos h4, print_full l false]
        · rw [if_neg h4, if_neg h4, print_full l il]
theorem eqv_full (l : List MTok) : Eqv (l.map fullT) l := by
  unfold Eqv
  rw [List.map_map]
  refine List.map_congr_left (fun t _ => ?_)
  show skel (fullT t) = skel t
  unfold skel
  rw [full_kind]
  by_cases h1 : t.1 = 1 ∨ t.1 = 3
  · have : fullT t = t := by unfold fullT; rw [if_neg (by omega), if_neg (by omega)]
    rw [this]
  · rw [if_neg h1, if_neg h1]
    by_cases h2 : t.1 = 2
    · have : fullT t = (2, 0, ⟨(decimal t.2.2.2).toArray⟩, t.2.2.2) := by unfold fullT; rw [if_pos h2]
      rw [this]
    · rw [if_neg h2, if_neg h2]
theorem eqv_bare {l l' : List MTok} (h : l'.map bareT = l.map bareT) : Eqv l' l := by
  have e : ∀ t : MTok, skel (bareT t) = skel t := fun t => rfl
  have q := congrArg (fun x => x.map skel) h
  simp only [List.map_map] at q
  unfold Eqv
  have e2 : skel ∘ bareT = skel := funext e
  rw [e2] at q
  exact q
theorem tok_word {s : ByteArray} (h : isWordB s = true) : TokOk (wordT s) := by
  obtain ⟨b, r, h1, h2, h3⟩ := word_form h
  exact .inl ⟨rfl, rfl, b, r, h1, h2, h3⟩
theorem tok_num {n : Int} (h : inI n) : TokOk (fullT (numT n)) := .inr (.inl ⟨rfl, h.1, h.2, by show (⟨(decimal n).toArray⟩ : ByteArray).data.toList = decimal n; simp⟩)
theorem tok_line : TokOk (fullT lineT) := .inr (.inr (.inr ⟨rfl, rfl, rfl⟩))
theorem tok_mark {b : UInt8} (h : b.toNat = 40 ∨ b.toNat = 41 ∨ b.toNat = 91 ∨ b.toNat = 93) : TokOk (fullT (markT b)) := .inr (.inr (.inl ⟨rfl, rfl, b, rfl, h⟩))
end Go.Proofs.YtfgbjghfkdmcjaaGreatDoor
namespace Go.Proofs.YtfgbjghfkdmcjaaGreatDoor
set_option linter.unusedVariables false
set_option linter.unusedSimpArgs false
open Go.RowKit

/-- What a history's reading leaves. -/
def HistT (bx : Nat) (w : World) (p : Except (Int × Int) (List MEv)) (e : Ending) (w' : World) : Prop := match p with
  | .ok l => (∃ v, e = .returned v ∧ EvsIn (fun b => w.heap.size ≤ b) w' v l) ∧ Beside bx w w'
  | .error f => e = gaveUp f.1 f.2 ∧ Beside bx w w'
theorem drop_in {en : Int} {T : List MTok} {k : Nat} (hn : k < T.length) : T.drop k = lookT en T k :: T.drop (k + 1) := by
  rw [look_in hn, List.drop_eq_getElem_cons hn]; simp [List.getD, hn]
theorem hist_end {en : Int} {T : List MTok} {k f : Nat} {out : List MEv} (hn : ¬ k < T.length) : pHist en (f + 1) (T.drop k) out = .ok out := by
  rw [List.drop_eq_nil_of_le (by omega), pHist_nil]
theorem hist_line {en : Int} {T : List MTok} {k f : Nat} {out : List MEv} (hn : k < T.length) (h : (lookT en T k).1 = 4) : pHist en (f + 1) (T.drop k) out = pHist en f (T.drop (k + 1)) out := by
  rw [drop_in (en := en) hn, pHist_line _ _ _ _ h]
theorem hist_full {en : Int} {T : List MTok} {k f : Nat} {out : List MEv} (hn : k < T.length) (h : ¬ (lookT en T k).1 = 4) (h3 : out.length = 300) : pHist en (f + 1) (T.drop k) out = .error (nextAt en (T.drop k), 4) := by
  rw [drop_in (en := en) hn, pHist_full _ _ _ _ h h3]; rfl
theorem hist_bad {en : Int} {T : List MTok} {k f : Nat} {out : List MEv} {e : Int × Int} (hn : k < T.length) (h : ¬ (lookT en T k).1 = 4) (h3 : ¬ out.length = 300) (hp : pEv en (T.drop k) = .error e) : pHist en (f + 1) (T.drop k) out = .error e := by
  rw [drop_in (en := en) hn] at hp ⊢
  exact pHist_bad _ _ _ _ e h h3 hp
theorem hist_more {en : Int} {T : List MTok} {k f : Nat} {out : List MEv} {z : MEv × List MTok} (hn : k < T.length) (h : ¬ (lookT en T k).1 = 4) (h3 : ¬ out.length = 300) (hp : pEv en (T.drop k) = .ok z) : pHist en (f + 1) (T.drop k) out = pHist en f z.2 (out ++ [z.1]) := by
  rw [drop_in (en := en) hn] at hp ⊢
  exact pHist_more _ _ _ _ z h h3 hp
theorem ev_lt {en : Int} {T : List MTok} {k m : Nat} {x : MEv} (hw : Wds T) (hn : k < T.length) (hp : pEv en (T.drop k) = .ok (x, T.drop m)) : T.length - m < T.length - k := by
  have h := sim_ev (en := en) (l := T.drop k) (hw.suf (List.drop_suffix k T))
  rw [hp] at h
  obtain ⟨_, _, _, _, h6⟩ := h
  simpa using h6
set_option maxHeartbeats 8000000 in
set_option maxRecDepth 100000 in
theorem history_is (bx : Nat) (en : Int) (T : List MTok) (w : World) (hw : Wds T) (h : PB bx en T 0 w) :
    Calls Tryz.prog 12 #[.pointer (some ⟨bx, 0, none⟩)] w (HistT bx w (pHist en (T.length + 1) T [])) := by
  have hlt := h.lt
  have P0 := hid h
  clear h
  obtain ⟨i0, hi, hz0, hz1, hz2⟩ := info_parts Tryz.infoEv
  have HI := hid hi
  have HZ0 := hid hz0
  have HZ1 := hid hz1
  have HZ2 := hid hz2
  clear hi hz0 hz1 hz2
  go_enter Tryz.func12, Tryz.ntmps12
  go_wp2_with fail
  go_loopg [3] (T.length + 1) (fun gm lv wr => ∃ (k f : Nat) (evs : List MEv) (rows : List (List Value)), T.length + 1 - k ≤ gm ∧ T.length - k ≤ f ∧ evs.length ≤ 300 ∧ Aside (PB bx en T k wr) ∧ Aside (OutInv 56 3 EvRow w.heap.size wr lv evs.length rows evs) ∧ Aside (Beside bx w wr) ∧ Aside (w.heap.size ≤ wr.heap.size) ∧ Aside (pHist en (T.length + 1) T [] = pHist en (f + 1) (T.drop k) evs))
  case atStart => exact ⟨0, T.length, [], [], by omega, by omega, by simp, P0.out, OutInv.nil _ _ _ _ _, Beside.refl _ _, Nat.le_refl _, by show _ = _; simp⟩
  case round =>
    obtain ⟨k, f, evs, rows, hgm, hf, h300, PK, OI, BE, SW, HN⟩ := hrel
    obtain ⟨la, lc, rfl⟩ := OI.out.sliceV
    obtain ⟨ao, ac, c0⟩ := PK.out.tokens
    have v0 := bcell c0
    have v1 := bcell PK.out.c1
    have bwS : Nonempty (BW wr) := bwSome wr
    by_cases hn : k < T.length
    · have hni : (k : Int) < (T.length : Int) := by omega
      go_wp2_with fail
      refine wp_region_quiet_below Tryz.mixedOrders (by kernel_rfl) ?_
      repeat (go_big_quiet_step (fail))
      refine wpQuiet_nil ?_
      intro w7 hw7
      obtain ⟨⟨V7, hb7⟩, hw8⟩ := hw7
      have hw9 : w7 = V7 := hw8
      subst hw9
      have P7 := hid (PK.out.keep (hb7.mono PK.out.lt))
      have b7b : Beside bx wr w7 := Beside.of_below hb7
      have B7 : Hid (Beside bx w w7) := BE.out.trans b7b
      have O7 := hid (OI.out.beside (fun _ _ _ _ _ _ h => h.keep) b7b hlt)
      have S7 : Hid (w.heap.size ≤ w7.heap.size) := Nat.le_trans SW.out hb7.size
      clear hw8 v0 v1 bwS hb7 b7b PK OI BE SW c0
      have L := hid (look_is bx k en T w7 P7.out)
      by_cases h4 : (lookT en T k).1 = 4
      · have HE := hid (HN.out.trans (hist_line hn h4))
        generalize lookT en T k = t at L h4
        have tf := tokf0 t.1 t.2.1 t.2.2.1 t.2.2.2
        go_wp2_with fail
        go_at_call 36
        refine L.out.mono ?_
        rintro e w8 ⟨rfl, b8⟩
        have P8 := hid (P7.out.keep (b8.mono P7.out.lt))
        have b8b : Beside bx w7 w8 := Beside.of_below b8
        have B8 : Hid (Beside bx w w8) := B7.out.trans b8b
        have O8 := hid (O7.out.beside (fun _ _ _ _ _ _ h => h.keep) b8b hlt)
        have S8 : Hid (w.heap.size ≤ w8.heap.size) := Nat.le_trans S7.out b8.size
        clear b8 b8b P7 B7 O7 S7
        have k1 := P8.out.c1
        have y1 := P8.out.z1
        go_wp2_with fail
        obtain ⟨f2, rfl⟩ : ∃ f2, f = f2 + 1 := ⟨f - 1, by omega⟩
        have hbs : Beside bx w8 (w8.setCell ⟨bx, 1, none⟩ (.int .i64 (RowKit.wrap64 ((k : Int) + 1)))) := (Beside.refl bx w8).setCell (p := ⟨bx, 1, none⟩) rfl _
        go_roundg (T.length + 1 - (k + 1))
        case measure => omega
        case rel => exact ⟨k + 1, f2, evs, rows, by omega, by omega, h300, P8.out.took hn, O8.out.beside (fun _ _ _ _ _ _ h => h.keep) hbs hlt, B8.out.trans hbs, Nat.le_trans S8.out hbs.size, HE.out⟩
      · by_cases h3 : evs.length = 300
        · have h3i : ((evs.length : Int) == 300) = true := by rw [h3]; rfl
          have HE := hid (HN.out.trans (hist_full hn h4 h3))
          have G := hid (fun w2 (b : Below w7.heap.size w7 w2) => giveUp_is bx k en 4 T w2 (P7.out.keep (b.mono P7.out.lt)))
          generalize lookT en T k = t at L h4
          have tf := tokf0 t.1 t.2.1 t.2.2.1 t.2.2.2
          go_wp2_with fail
          go_at_call 36
          refine L.out.mono ?_
          rintro e w8 ⟨rfl, b8⟩
          have B8 := hid b8
          clear b8
          go_wp2_with fail
          go_at_call 37
          refine (G.out _ B8.out).mono ?_
          rintro e w9 ⟨rfl, b9⟩
          refine ⟨rfl, ?_⟩
          show HistT bx w (pHist en (T.length + 1) T []) _ _
          rw [HE.out]
          exact ⟨rfl, (B7.out.trans (Beside.of_below B8.out)).trans (Beside.of_below b9)⟩
        · have h3i : ((evs.length : Int) == 300) = false := by rw [beq_eq_false_iff_ne]; omega
          have EV := hid (fun w2 (b : Below w7.heap.size w7 w2) => event_is bx k en T w2 (P7.out.keep (b.mono P7.out.lt)))
          cases hp : pEv en (T.drop k) with
          | error fe =>
            have HE := hid (HN.out.trans (hist_bad hn h4 h3 hp))
            rw [hp] at EV
            generalize lookT en T k = t at L h4
            have tf := tokf0 t.1 t.2.1 t.2.2.1 t.2.2.2
            go_wp2_with fail
            go_at_call 36
            refine L.out.mono ?_
            rintro e w8 ⟨rfl, b8⟩
            have B8 := hid b8
            clear b8
            go_wp2_with fail
            go_at_call 38
            refine (EV.out _ B8.out).mono ?_
            rintro e w9 ⟨rfl, b9⟩
            refine ⟨rfl, ?_⟩
            show HistT bx w (pHist en (T.length + 1) T []) _ _
            rw [HE.out]
            exact ⟨rfl, (B7.out.trans (Beside.of_below B8.out)).trans b9⟩
          | ok z =>
            obtain ⟨f2, rfl⟩ : ∃ f2, f = f2 + 1 := ⟨f - 1, by omega⟩
            obtain ⟨x, l9⟩ := z
            have HE := hid (HN.out.trans (hist_more hn h4 h3 hp))
            have HP := hid hp
            rw [hp] at EV
            clear hp
            generalize lookT en T k = t at L h4
            have tf := tokf0 t.1 t.2.1 t.2.2.1 t.2.2.2
            go_wp2_with fail
            go_at_call 36
            refine L.out.mono ?_
            rintro e w8 ⟨rfl, b8⟩
            have B8 := hid b8
            clear b8
            go_wp2_with fail
            go_at_call 38
            refine (EV.out _ B8.out).mono ?_
            rintro e w9 ⟨⟨m9, hm9, P9⟩, ⟨v9, rfl, hv9⟩, b9⟩
            obtain ⟨ov, rfl, hov⟩ := hv9
            obtain ⟨oa, oc, rfl, hov1, hov2⟩ := id hov
            clear hov1 hov2
            have hm9' : l9 = T.drop m9 := hm9
            subst hm9'
            have P9H := hid P9
            have B9 : Hid (Beside bx w7 w9) := (Beside.of_below B8.out).trans b9
            have V9 : Hid (OpsIn (fun b => w7.heap.size ≤ b) w9 (.slice oa x.ops.length oc) x.ops) := hov.keep (fun _ _ _ => rfl) (fun b _ hb => Nat.le_trans B8.out.size hb)
            have hlt9 := ev_lt hw hn HP.out
            clear hm9 P9 b9 hov HP
            have hs7 := S7.out
            have hs9 := B9.out.size
            have hbl : Below w9.heap.size w9 (w9.alloc (.cells #[.int .i64 x.kind, .int .i64 x.proc, .slice oa x.ops.length oc] 56)) := below_box w9 _
            have B9a : Hid (Beside bx w7 (w9.alloc (.cells #[.int .i64 x.kind, .int .i64 x.proc, .slice oa x.ops.length oc] 56))) := B9.out.trans (Beside.of_below hbl)
            have V9a : Hid (OpsIn (fun b => w7.heap.size ≤ b) (w9.alloc (.cells #[.int .i64 x.kind, .int .i64 x.proc, .slice oa x.ops.length oc] 56)) (.slice oa x.ops.length oc) x.ops) := V9.out.keep (keeps_below hbl) (fun _ _ h => h)
            have O9 := hid (O7.out.beside (fun _ _ _ _ _ _ h => h.keep) B9a.out hlt)
            clear hbl
            go_wp2_with (at_builtin; refine wpList_append_lies _ rfl _ _ 22 rfl w.heap.size 56 i0 _ 3 40 Tryz.underlying22 HI.out HZ0.out HZ1.out HZ2.out rfl (by decide) (.slice la evs.length lc) evs.length rows.flatten rfl O9.out.own ⟨w9.heap.size, 0, none⟩ 1 1 [.int .i64 x.kind, .int .i64 x.proc, .slice oa x.ops.length oc] rfl rfl (World.news_of_block (cs := #[.int .i64 x.kind, .int .i64 x.proc, .slice oa x.ops.length oc]) (t := 56) (fr := (0, 0)) (heap_alloc_new w9 _)) (by simp [Value.oneCell']) (by decide) (by unfold maxLen; omega) (by omega) (by simp; omega) (w9.heap.size + 1) (by simp) ?_; intro g cap w10 hown hgrow hat hglt)
            have O10 := O7.out.grow (fun _ _ _ _ _ _ h => h.keep) (row := [.int .i64 x.kind, .int .i64 x.proc, .slice oa x.ops.length oc]) (x := x) hs7 hlt B9a.out ⟨_, rfl, V9a.out⟩ rfl hown hgrow (by simpa using hat)
            have hgs : w9.heap.size < w10.heap.size := by have := hgrow.size; simp at this; omega
            have B910 : Below w.heap.size w9 w10 := ((Below.refl _ w9).alloc (by omega) _).grown hgrow (by simp; omega) (fun kk hk => (O7.out.own.lt kk hk).1)
            have O11 : OutInv 56 3 EvRow w.heap.size w10 (.slice (some ⟨g, 0, none⟩) (evs.length + 1) cap) (evs ++ [x]).length (rows ++ [[.int .i64 x.kind, .int .i64 x.proc, .slice oa x.ops.length oc]]) (evs ++ [x]) := by simpa using O10
            go_roundg (T.length + 1 - m9)
            case measure => omega
            case rel => exact ⟨m9, f2, evs ++ [x], rows ++ [[Value.int .i64 x.kind, .int .i64 x.proc, .slice oa x.ops.length oc]], by omega, by omega, by simp; omega, P9H.out.keep (B910.mono hlt), O11, (B7.out.trans B9.out).later B910, (by show w.heap.size ≤ w10.heap.size; omega), HE.out⟩
    · have hni : ¬ (k : Int) < (T.length : Int) := by omega
      have HE := hid (HN.out.trans (hist_end hn))
      go_wp2_with fail
      refine wp_region_quiet_below Tryz.mixedOrders (by kernel_rfl) ?_
      repeat (go_big_quiet_step (fail))
      refine wpQuiet_nil ?_
      intro w7 hw7
      obtain ⟨⟨V7, hb7⟩, hw8⟩ := hw7
      have hw9 : w7 = V7 := hw8
      subst hw9
      have b7b : Beside bx wr w7 := Beside.of_below hb7
      have B7 : Hid (Beside bx w w7) := BE.out.trans b7b
      have O7 := hid (OI.out.beside (fun _ _ _ _ _ _ h => h.keep) b7b hlt)
      clear hw8 v0 v1 bwS hb7 b7b
      go_wp2_with fail
      rw [HE.out]
      go_ret
      exact ⟨⟨_, rfl, O7.out.rows_in (bytes := 40) (fun _ _ _ _ _ _ h => h.keep) (by omega)⟩, B7.out⟩
end Go.Proofs.YtfgbjghfkdmcjaaGreatDoor
namespace Go.Proofs.YtfgbjghfkdmcjaaGreatDoor
set_option linter.unusedVariables false
set_option linter.unusedSimpArgs false
open Go.RowKit

/-- What the reference's token answers. -/
def refTokVal : Except (Nat × Nat) (MTok × Nat) → Value
  | .ok (t, k) => .tuple #[.agg #[.int .i64 t.1, .int .i64 t.2.1, .string t.2.2.1, .int .i64 t.2.2.2], .int .i64 k, .int .i64 0, .int .i64 0]
  | .error (a, y) => .tuple #[.agg #[.int .i64 0, .int .i64 0, .string ByteArray.empty, .int .i64 0], .int .i64 0, .int .i64 a, .int .i64 y]

theorem extract_one {s : ByteArray} {i c : Nat} (hi : i < s.size) (h : bt s i = c) : s.extract i (i + 1) = ⟨#[UInt8.ofNat c]⟩ := by
  have e := extract_bl s i (i + 1) (by omega)
  rw [show i + 1 - i = 1 by omega] at e
  simp only [bl, h] at e
  rw [ByteArray.ext_iff, ← Array.toList_inj, e]

theorem wEnd_from {s : ByteArray} {i k : Nat} (hs : isSm (bt s i) = true) (h : RunEnd isWd s (i + 1) k) : wEnd s i = k := by
  refine (wEnd_is s i).uniq ⟨by have := h.1; omega, fun j h1 h2 => ?_, h.2.2⟩
  by_cases e : j = i
  · rw [e]; simp [isWd, hs]
  · exact h.2.1 j (by omega) h2

theorem refNumber_any (s : ByteArray) (i : Nat) (w : World) (hs : s.size ≤ 20000) (hi : i < s.size) (h : isDg (bt s i) = true ∨ (bt s i = 45 ∧ isDg (bt s (i + 1)) = true)) :
    Calls Tryz.prog 63 #[.string s, .int .i64 i] w fun e w' => e = .returned (refNumVal (numM s i)) ∧ w = w' := by
  by_cases h45 : bt s i = 45
  · have hd : isDg (bt s (i + 1)) = true := by
      rcases h with h | h
      · rw [h45] at h; cases h
      · exact h.2
    have hfl : i + 1 < s.size := by
      by_cases hc : i + 1 < s.size
      · exact hc
      · rw [bt_out hc] at hd; cases hd
    exact (refNumber_neg s i w hs hi h45 hfl hd).mono fun _ _ h => ⟨h.1, h.2.symm⟩
  · have hd : isDg (bt s i) = true := by
      rcases h with h | h
      · exact h
      · exact absurd h.1 h45
    exact (refNumber_pos s i w hs hi h45 hd).mono fun _ _ h => ⟨h.1, h.2.symm⟩

set_option maxRecDepth 100000 in
set_option maxHeartbeats 4000000 in
/-- The reference's token. -/
theorem refToken_any (s : ByteArray) (i : Nat) (w : World) (hs : s.size ≤ 20000) (hi : i < s.size) :
    Calls Tryz.prog 39 #[.string s, .int .i64 i] w fun e w' => e = .returned (refTokVal (tokM s i)) ∧ Below w.heap.size w w' := by
  have hii : (i : Int) < (s.size : Int) := by omega
  by_cases hk : bt s i = 10
  · skip
    have HTK : Hid (tokM s i = .ok (((4 : Int), (i : Int), ⟨#[10]⟩, (0 : Int)), i + 1)) := by
      show tokM s i = _
      unfold tokM; rw [if_neg (by simp [hk, isSm]), if_neg (by simp [hk, isDg]), if_neg (by omega), if_pos hk, extract_one hi hk]; rfl
    have q10 : ((((s[i]'hi).toNat : Nat) : Int) == 10) = true := beq_iff_eq.2 (by rw [bt_get hi, hk]; rfl)
    clear hk
    go_enter Tryz.func39, Tryz.ntmps39
    go_wp2_with (first | (go_at_call 61; refine (at_c _ _ _ (by omega)).mono ?_; rintro e w' ⟨rfl, rfl⟩) | (go_at_call 62; refine (dg_c _ _).mono ?_; rintro e w' ⟨rfl, rfl⟩) | (go_at_call 60; refine (lt_c _ _).mono ?_; rintro e w' ⟨rfl, rfl⟩))
    rw [HTK.out]
    exact bodyPost_ret (v := .tuple #[.agg #[.int .i64 4, .int .i64 i, .string ⟨#[10]⟩, .int .i64 0], .int .i64 ((i + 1 : Nat) : Int), .int .i64 0, .int .i64 0]) (by simp [results, Tryz.results23, go_sem] <;> rfl) rfl ⟨rfl, (Below.refl _ w).alloc (Nat.le_refl _) _⟩
  have h10 := hk
  cases hsm : isSm (bt s i) with
  | true =>
    have hsmv := isSm_iff.1 hsm
    have q10 : ((((s[i]'hi).toNat : Nat) : Int) == 10) = false := beq_eq_false_iff_ne.2 (by rw [bt_get hi]; omega)
    have r0 : isSm (s[i]'hi).toNat = true := by rw [bt_get hi]; exact hsm
    go_enter Tryz.func39, Tryz.ntmps39
    go_wp2_with (first | (go_at_call 61; refine (at_c _ _ _ (by omega)).mono ?_; rintro e w' ⟨rfl, rfl⟩) | (go_at_call 62; refine (dg_c _ _).mono ?_; rintro e w' ⟨rfl, rfl⟩) | (go_at_call 60; refine (lt_c _ _).mono ?_; rintro e w' ⟨rfl, rfl⟩))
    go_loopg [9] (s.size - i) (fun g t wr => ∃ k : Nat, i + 1 ≤ k ∧ k ≤ s.size ∧ s.size - k ≤ g ∧ t = .int .i64 k ∧ wr = w.alloc (.cells #[.int .i64 0, .int .i64 0, .string ByteArray.empty, .int .i64 0] 51) ∧ Aside (∀ j, i + 1 ≤ j → j < k → isWd (bt s j) = true))
    case atStart => exact ⟨i + 1, Nat.le_refl _, by omega, by omega, by go_num, rfl, fun j h1 h2 => by omega⟩
    case round =>
      obtain ⟨k, hk1, hk2, hg, rfl, rfl, A⟩ := hrel
      have hlt_of : ∀ p : Nat → Bool, p 0 = false → p (bt s k) = true → k < s.size := fun p hp h => by
        by_cases hc : k < s.size
        · exact hc
        · rw [bt_out hc, hp] at h; cases h
      cases q1 : isSm (bt s k) with
      | true =>
        have hlt := hlt_of isSm rfl q1
        clear hlt_of
        go_wp2_with (first | (go_at_call 61; refine (at_c _ _ _ (by omega)).mono ?_; rintro e w' ⟨rfl, rfl⟩) | (go_at_call 62; refine (dg_c _ _).mono ?_; rintro e w' ⟨rfl, rfl⟩) | (go_at_call 60; refine (lt_c _ _).mono ?_; rintro e w' ⟨rfl, rfl⟩))
        go_roundg (s.size - (k + 1))
        case measure => omega
        case rel =>
          refine ⟨k + 1, by omega, by omega, by omega, by go_num, rfl, (show Aside _ from fun j h1 h2 => ?_)⟩
          by_cases e : j = k
          · subst e; simp [isWd, q1]
          · exact A.out j h1 (by omega)
      | false =>
        cases q2 : isDg (bt s k) with
        | true =>
          have hlt := hlt_of isDg rfl q2
          clear hlt_of
          go_wp2_with (first | (go_at_call 61; refine (at_c _ _ _ (by omega)).mono ?_; rintro e w' ⟨rfl, rfl⟩) | (go_at_call 62; refine (dg_c _ _).mono ?_; rintro e w' ⟨rfl, rfl⟩) | (go_at_call 60; refine (lt_c _ _).mono ?_; rintro e w' ⟨rfl, rfl⟩))
          go_roundg (s.size - (k + 1))
          case measure => omega
          case rel =>
            refine ⟨k + 1, by omega, by omega, by omega, by go_num, rfl, (show Aside _ from fun j h1 h2 => ?_)⟩
            by_cases e : j = k
            · subst e; simp [isWd, q2]
            · exact A.out j h1 (by omega)
        | false =>
          have HW : Hid (wEnd s i = k) := wEnd_from hsm ⟨hk1, A.out, by simp [isWd, q1, q2]⟩
          have HTK : Hid (tokM s i = .ok (((1 : Int), (i : Int), s.extract i k, (0 : Int)), k)) := by
            show tokM s i = _
            unfold tokM; rw [if_pos hsm, HW.out]
          have hE1 : (i : Int) ≤ (k : Int) := by omega
          have hE2 : (k : Int) ≤ (s.size : Int) := by omega
          clear hlt_of
          go_wp2_with (first | (go_at_call 61; refine (at_c _ _ _ (by omega)).mono ?_; rintro e w' ⟨rfl, rfl⟩) | (go_at_call 62; refine (dg_c _ _).mono ?_; rintro e w' ⟨rfl, rfl⟩) | (go_at_call 60; refine (lt_c _ _).mono ?_; rintro e w' ⟨rfl, rfl⟩))
          rw [HTK.out]
          exact bodyPost_ret (v := .tuple #[.agg #[.int .i64 1, .int .i64 i, .string (s.extract i k), .int .i64 0], .int .i64 ((k : Nat) : Int), .int .i64 0, .int .i64 0]) (by simp [results, Tryz.results23, go_sem] <;> rfl) rfl ⟨rfl, (Below.refl _ w).alloc (Nat.le_refl _) _⟩
  | false =>
    have hsmv := isSm_no.1 hsm
    cases hdg : isDg (bt s i) with
    | true =>
      have hdgv := isDg_iff.1 hdg
      have q10 : ((((s[i]'hi).toNat : Nat) : Int) == 10) = false := beq_eq_false_iff_ne.2 (by rw [bt_get hi]; omega)
      have r0 : isSm (s[i]'hi).toNat = false := by rw [bt_get hi]; exact hsm
      have r1 : isDg (s[i]'hi).toNat = true := by rw [bt_get hi]; exact hdg
      have hnum : bt s i = 45 ∨ isDg (bt s i) = true := .inr hdg
      have hpre : isDg (bt s i) = true ∨ (bt s i = 45 ∧ isDg (bt s (i + 1)) = true) := .inl hdg
      have hnc := refNumber_any s i (w.alloc (.cells #[.int .i64 0, .int .i64 0, .string ByteArray.empty, .int .i64 0] 51)) hs hi hpre
      cases hN : numM s i with
      | ok q =>
        obtain ⟨n, e⟩ := q
        have HTK : Hid (tokM s i = .ok (((2 : Int), (i : Int), s.extract i e, n), e)) := by
          show tokM s i = _
          unfold tokM; rw [if_neg (by simp [hsm]), if_pos hnum, hN]
        have hE := numM_gt hN hi
        have hE1 : (i : Int) ≤ (e : Int) := by omega
        have hE2 : (e : Int) ≤ (s.size : Int) := by omega
        rw [hN] at hnc
        simp only [refNumVal] at hnc
        have HC := hid hnc
        clear hN hnc
        go_enter Tryz.func39, Tryz.ntmps39
        go_wp2_with (first | (go_at_call 61; refine (at_c _ _ _ (by omega)).mono ?_; rintro e w' ⟨rfl, rfl⟩) | (go_at_call 62; refine (dg_c _ _).mono ?_; rintro e w' ⟨rfl, rfl⟩) | (go_at_call 60; refine (lt_c _ _).mono ?_; rintro e w' ⟨rfl, rfl⟩) | (go_at_call 63; refine HC.out.mono ?_; rintro e w' ⟨rfl, rfl⟩))
        rw [HTK.out]
        exact bodyPost_ret (v := .tuple #[.agg #[.int .i64 2, .int .i64 i, .string (s.extract i e), .int .i64 n], .int .i64 ((e : Nat) : Int), .int .i64 0, .int .i64 0]) (by simp [results, Tryz.results23, go_sem] <;> rfl) rfl ⟨rfl, (Below.refl _ w).alloc (Nat.le_refl _) _⟩
      | error q =>
        obtain ⟨a, y⟩ := q
        have HTK : Hid (tokM s i = .error (a, y)) := by
          show tokM s i = _
          unfold tokM; rw [if_neg (by simp [hsm]), if_pos hnum, hN]
        have hy := numM_err hN
        rw [hN] at hnc
        simp only [refNumVal] at hnc
        have HC := hid hnc
        clear hN hnc
        go_enter Tryz.func39, Tryz.ntmps39
        go_wp2_with (first | (go_at_call 61; refine (at_c _ _ _ (by omega)).mono ?_; rintro e w' ⟨rfl, rfl⟩) | (go_at_call 62; refine (dg_c _ _).mono ?_; rintro e w' ⟨rfl, rfl⟩) | (go_at_call 60; refine (lt_c _ _).mono ?_; rintro e w' ⟨rfl, rfl⟩) | (go_at_call 63; refine HC.out.mono ?_; rintro e w' ⟨rfl, rfl⟩))
        rw [HTK.out]
        exact bodyPost_ret (v := .tuple #[.agg #[.int .i64 0, .int .i64 0, .string ByteArray.empty, .int .i64 0], .int .i64 0, .int .i64 ((a : Nat) : Int), .int .i64 ((y : Nat) : Int)]) (by simp [results, Tryz.results23, go_sem] <;> rfl) rfl ⟨rfl, (Below.refl _ w).alloc (Nat.le_refl _) _⟩
    | false =>
      have hdgv := isDg_no.1 hdg
      by_cases h45 : bt s i = 45
      · cases hd1 : isDg (bt s (i + 1)) with
        | true =>
          have q10 : ((((s[i]'hi).toNat : Nat) : Int) == 10) = false := beq_eq_false_iff_ne.2 (by rw [bt_get hi]; omega)
          have r0 : isSm (s[i]'hi).toNat = false := by rw [bt_get hi]; exact hsm
          have r1 : isDg (s[i]'hi).toNat = false := by rw [bt_get hi]; exact hdg
          have q45 : ((((s[i]'hi).toNat : Nat) : Int) == 45) = true := beq_iff_eq.2 (by rw [bt_get hi, h45]; rfl)
          have hnum : bt s i = 45 ∨ isDg (bt s i) = true := .inl h45
          have hpre : isDg (bt s i) = true ∨ (bt s i = 45 ∧ isDg (bt s (i + 1)) = true) := .inr ⟨h45, hd1⟩
          have hnc := refNumber_any s i (w.alloc (.cells #[.int .i64 0, .int .i64 0, .string ByteArray.empty, .int .i64 0] 51)) hs hi hpre
          cases hN : numM s i with
          | ok q =>
            obtain ⟨n, e⟩ := q
            have HTK : Hid (tokM s i = .ok (((2 : Int), (i : Int), s.extract i e, n), e)) := by
              show tokM s i = _
              unfold tokM; rw [if_neg (by simp [hsm]), if_pos hnum, hN]
            have hE := numM_gt hN hi
            have hE1 : (i : Int) ≤ (e : Int) := by omega
            have hE2 : (e : Int) ≤ (s.size : Int) := by omega
            rw [hN] at hnc
            simp only [refNumVal] at hnc
            have HC := hid hnc
            clear hN hnc
            go_enter Tryz.func39, Tryz.ntmps39
            go_wp2_with (first | (go_at_call 61; refine (at_c _ _ _ (by omega)).mono ?_; rintro e w' ⟨rfl, rfl⟩) | (go_at_call 62; refine (dg_c _ _).mono ?_; rintro e w' ⟨rfl, rfl⟩) | (go_at_call 60; refine (lt_c _ _).mono ?_; rintro e w' ⟨rfl, rfl⟩) | (go_at_call 63; refine HC.out.mono ?_; rintro e w' ⟨rfl, rfl⟩))
            rw [HTK.out]
            exact bodyPost_ret (v := .tuple #[.agg #[.int .i64 2, .int .i64 i, .string (s.extract i e), .int .i64 n], .int .i64 ((e : Nat) : Int), .int .i64 0, .int .i64 0]) (by simp [results, Tryz.results23, go_sem] <;> rfl) rfl ⟨rfl, (Below.refl _ w).alloc (Nat.le_refl _) _⟩
          | error q =>
            obtain ⟨a, y⟩ := q
            have HTK : Hid (tokM s i = .error (a, y)) := by
              show tokM s i = _
              unfold tokM; rw [if_neg (by simp [hsm]), if_pos hnum, hN]
            have hy := numM_err hN
            rw [hN] at hnc
            simp only [refNumVal] at hnc
            have HC := hid hnc
            clear hN hnc
            go_enter Tryz.func39, Tryz.ntmps39
            go_wp2_with (first | (go_at_call 61; refine (at_c _ _ _ (by omega)).mono ?_; rintro e w' ⟨rfl, rfl⟩) | (go_at_call 62; refine (dg_c _ _).mono ?_; rintro e w' ⟨rfl, rfl⟩) | (go_at_call 60; refine (lt_c _ _).mono ?_; rintro e w' ⟨rfl, rfl⟩) | (go_at_call 63; refine HC.out.mono ?_; rintro e w' ⟨rfl, rfl⟩))
            rw [HTK.out]
            exact bodyPost_ret (v := .tuple #[.agg #[.int .i64 0, .int .i64 0, .string ByteArray.empty, .int .i64 0], .int .i64 0, .int .i64 ((a : Nat) : Int), .int .i64 ((y : Nat) : Int)]) (by simp [results, Tryz.results23, go_sem] <;> rfl) rfl ⟨rfl, (Below.refl _ w).alloc (Nat.le_refl _) _⟩
        | false =>
          have HTK : Hid (tokM s i = .error (i, 10)) := by
            show tokM s i = _
            unfold tokM; rw [if_neg (by simp [hsm]), if_pos (.inl h45), numM_bad ⟨h45, by
              have := isDg_no.1 hd1
              have hf : nF s i = i + 1 := by unfold nF; rw [if_pos h45]
              rw [hf]; omega⟩]
          have q10 : ((((s[i]'hi).toNat : Nat) : Int) == 10) = false := beq_eq_false_iff_ne.2 (by rw [bt_get hi]; omega)
          have r0 : isSm (s[i]'hi).toNat = false := by rw [bt_get hi]; exact hsm
          have r1 : isDg (s[i]'hi).toNat = false := by rw [bt_get hi]; exact hdg
          have q45 : ((((s[i]'hi).toNat : Nat) : Int) == 45) = true := beq_iff_eq.2 (by rw [bt_get hi, h45]; rfl)
          have q40 : ((((s[i]'hi).toNat : Nat) : Int) == 40) = false := beq_eq_false_iff_ne.2 (by rw [bt_get hi]; omega)
          have q41 : ((((s[i]'hi).toNat : Nat) : Int) == 41) = false := beq_eq_false_iff_ne.2 (by rw [bt_get hi]; omega)
          have q91 : ((((s[i]'hi).toNat : Nat) : Int) == 91) = false := beq_eq_false_iff_ne.2 (by rw [bt_get hi]; omega)
          have q93 : ((((s[i]'hi).toNat : Nat) : Int) == 93) = false := beq_eq_false_iff_ne.2 (by rw [bt_get hi]; omega)
          go_enter Tryz.func39, Tryz.ntmps39
          go_wp2_with (first | (go_at_call 61; refine (at_c _ _ _ (by omega)).mono ?_; rintro e w' ⟨rfl, rfl⟩) | (go_at_call 62; refine (dg_c _ _).mono ?_; rintro e w' ⟨rfl, rfl⟩) | (go_at_call 60; refine (lt_c _ _).mono ?_; rintro e w' ⟨rfl, rfl⟩))
          rw [HTK.out]
          exact bodyPost_ret (v := .tuple #[.agg #[.int .i64 0, .int .i64 0, .string ByteArray.empty, .int .i64 0], .int .i64 0, .int .i64 ((i : Nat) : Int), .int .i64 (10)]) (by simp [results, Tryz.results23, go_sem] <;> rfl) rfl ⟨rfl, (Below.refl _ w).alloc (Nat.le_refl _) _⟩
      by_cases hk : bt s i = 40
      · skip
        have HTK : Hid (tokM s i = .ok (((3 : Int), (i : Int), s.extract i (i + 1), (0 : Int)), i + 1)) := by
          show tokM s i = _
          unfold tokM; rw [if_neg (by simp [hsm]), if_neg (by simp [hdg]; omega), if_pos (by omega)]
        have q10 : ((((s[i]'hi).toNat : Nat) : Int) == 10) = false := beq_eq_false_iff_ne.2 (by rw [bt_get hi]; omega)
        have r0 : isSm (s[i]'hi).toNat = false := by rw [bt_get hi]; exact hsm
        have r1 : isDg (s[i]'hi).toNat = false := by rw [bt_get hi]; exact hdg
        have q45 : ((((s[i]'hi).toNat : Nat) : Int) == 45) = false := beq_eq_false_iff_ne.2 (by rw [bt_get hi]; omega)
        have q40 : ((((s[i]'hi).toNat : Nat) : Int) == 40) = true := beq_iff_eq.2 (by rw [bt_get hi, hk]; rfl)
        have hE1 : (i : Int) ≤ (i : Int) + 1 := by omega
        have hE2 : (i : Int) + 1 ≤ (s.size : Int) := by omega
        go_enter Tryz.func39, Tryz.ntmps39
        go_wp2_with (first | (go_at_call 61; refine (at_c _ _ _ (by omega)).mono ?_; rintro e w' ⟨rfl, rfl⟩) | (go_at_call 62; refine (dg_c _ _).mono ?_; rintro e w' ⟨rfl, rfl⟩) | (go_at_call 60; refine (lt_c _ _).mono ?_; rintro e w' ⟨rfl, rfl⟩))
        rw [HTK.out]
        exact bodyPost_ret (v := .tuple #[.agg #[.int .i64 3, .int .i64 i, .string (s.extract i (i + 1)), .int .i64 0], .int .i64 ((i + 1 : Nat) : Int), .int .i64 0, .int .i64 0]) (by simp [results, Tryz.results23, go_sem] <;> rfl) rfl ⟨rfl, (Below.refl _ w).alloc (Nat.le_refl _) _⟩
      by_cases hk : bt s i = 41
      · skip
        have HTK : Hid (tokM s i = .ok (((3 : Int), (i : Int), s.extract i (i + 1), (0 : Int)), i + 1)) := by
          show tokM s i = _
          unfold tokM; rw [if_neg (by simp [hsm]), if_neg (by simp [hdg]; omega), if_pos (by omega)]
        have q10 : ((((s[i]'hi).toNat : Nat) : Int) == 10) = false := beq_eq_false_iff_ne.2 (by rw [bt_get hi]; omega)
        have r0 : isSm (s[i]'hi).toNat = false := by rw [bt_get hi]; exact hsm
        have r1 : isDg (s[i]'hi).toNat = false := by rw [bt_get hi]; exact hdg
        have q45 : ((((s[i]'hi).toNat : Nat) : Int) == 45) = false := beq_eq_false_iff_ne.2 (by rw [bt_get hi]; omega)
        have q40 : ((((s[i]'hi).toNat : Nat) : Int) == 40) = false := beq_eq_false_iff_ne.2 (by rw [bt_get hi]; omega)
        have q41 : ((((s[i]'hi).toNat : Nat) : Int) == 41) = true := beq_iff_eq.2 (by rw [bt_get hi, hk]; rfl)
        have hE1 : (i : Int) ≤ (i : Int) + 1 := by omega
        have hE2 : (i : Int) + 1 ≤ (s.size : Int) := by omega
        go_enter Tryz.func39, Tryz.ntmps39
        go_wp2_with (first | (go_at_call 61; refine (at_c _ _ _ (by omega)).mono ?_; rintro e w' ⟨rfl, rfl⟩) | (go_at_call 62; refine (dg_c _ _).mono ?_; rintro e w' ⟨rfl, rfl⟩) | (go_at_call 60; refine (lt_c _ _).mono ?_; rintro e w' ⟨rfl, rfl⟩))
        rw [HTK.out]
        exact bodyPost_ret (v := .tuple #[.agg #[.int .i64 3, .int .i64 i, .string (s.extract i (i + 1)), .int .i64 0], .int .i64 ((i + 1 : Nat) : Int), .int .i64 0, .int .i64 0]) (by simp [results, Tryz.results23, go_sem] <;> rfl) rfl ⟨rfl, (Below.refl _ w).alloc (Nat.le_refl _) _⟩
      by_cases hk : bt s i = 91
      · skip
        have HTK : Hid (tokM s i = .ok (((3 : Int), (i : Int), s.extract i (i + 1), (0 : Int)), i + 1)) := by
          show tokM s i = _
          unfold tokM; rw [if_neg (by simp [hsm]), if_neg (by simp [hdg]; omega), if_pos (by omega)]
        have q10 : ((((s[i]'hi).toNat : Nat) : Int) == 10) = false := beq_eq_false_iff_ne.2 (by rw [bt_get hi]; omega)
        have r0 : isSm (s[i]'hi).toNat = false := by rw [bt_get hi]; exact hsm
        have r1 : isDg (s[i]'hi).toNat = false := by rw [bt_get hi]; exact hdg
        have q45 : ((((s[i]'hi).toNat : Nat) : Int) == 45) = false := beq_eq_false_iff_ne.2 (by rw [bt_get hi]; omega)
        have q40 : ((((s[i]'hi).toNat : Nat) : Int) == 40) = false := beq_eq_false_iff_ne.2 (by rw [bt_get hi]; omega)
        have q41 : ((((s[i]'hi).toNat : Nat) : Int) == 41) = false := beq_eq_false_iff_ne.2 (by rw [bt_get hi]; omega)
        have q91 : ((((s[i]'hi).toNat : Nat) : Int) == 91) = true := beq_iff_eq.2 (by rw [bt_get hi, hk]; rfl)
        have hE1 : (i : Int) ≤ (i : Int) + 1 := by omega
        have hE2 : (i : Int) + 1 ≤ (s.size : Int) := by omega
        go_enter Tryz.func39, Tryz.ntmps39
        go_wp2_with (first | (go_at_call 61; refine (at_c _ _ _ (by omega)).mono ?_; rintro e w' ⟨rfl, rfl⟩) | (go_at_call 62; refine (dg_c _ _).mono ?_; rintro e w' ⟨rfl, rfl⟩) | (go_at_call 60; refine (lt_c _ _).mono ?_; rintro e w' ⟨rfl, rfl⟩))
        rw [HTK.out]
        exact bodyPost_ret (v := .tuple #[.agg #[.int .i64 3, .int .i64 i, .string (s.extract i (i + 1)), .int .i64 0], .int .i64 ((i + 1 : Nat) : Int), .int .i64 0, .int .i64 0]) (by simp [results, Tryz.results23, go_sem] <;> rfl) rfl ⟨rfl, (Below.refl _ w).alloc (Nat.le_refl _) _⟩
      by_cases hk : bt s i = 93
      · skip
        have HTK : Hid (tokM s i = .ok (((3 : Int), (i : Int), s.extract i (i + 1), (0 : Int)), i + 1)) := by
          show tokM s i = _
          unfold tokM; rw [if_neg (by simp [hsm]), if_neg (by simp [hdg]; omega), if_pos (by omega)]
        have q10 : ((((s[i]'hi).toNat : Nat) : Int) == 10) = false := beq_eq_false_iff_ne.2 (by rw [bt_get hi]; omega)
        have r0 : isSm (s[i]'hi).toNat = false := by rw [bt_get hi]; exact hsm
        have r1 : isDg (s[i]'hi).toNat = false := by rw [bt_get hi]; exact hdg
        have q45 : ((((s[i]'hi).toNat : Nat) : Int) == 45) = false := beq_eq_false_iff_ne.2 (by rw [bt_get hi]; omega)
        have q40 : ((((s[i]'hi).toNat : Nat) : Int) == 40) = false := beq_eq_false_iff_ne.2 (by rw [bt_get hi]; omega)
        have q41 : ((((s[i]'hi).toNat : Nat) : Int) == 41) = false := beq_eq_false_iff_ne.2 (by rw [bt_get hi]; omega)
        have q91 : ((((s[i]'hi).toNat : Nat) : Int) == 91) = false := beq_eq_false_iff_ne.2 (by rw [bt_get hi]; omega)
        have q93 : ((((s[i]'hi).toNat : Nat) : Int) == 93) = true := beq_iff_eq.2 (by rw [bt_get hi, hk]; rfl)
        have hE1 : (i : Int) ≤ (i : Int) + 1 := by omega
        have hE2 : (i : Int) + 1 ≤ (s.size : Int) := by omega
        go_enter Tryz.func39, Tryz.ntmps39
        go_wp2_with (first | (go_at_call 61; refine (at_c _ _ _ (by omega)).mono ?_; rintro e w' ⟨rfl, rfl⟩) | (go_at_call 62; refine (dg_c _ _).mono ?_; rintro e w' ⟨rfl, rfl⟩) | (go_at_call 60; refine (lt_c _ _).mono ?_; rintro e w' ⟨rfl, rfl⟩))
        rw [HTK.out]
        exact bodyPost_ret (v := .tuple #[.agg #[.int .i64 3, .int .i64 i, .string (s.extract i (i + 1)), .int .i64 0], .int .i64 ((i + 1 : Nat) : Int), .int .i64 0, .int .i64 0]) (by simp [results, Tryz.results23, go_sem] <;> rfl) rfl ⟨rfl, (Below.refl _ w).alloc (Nat.le_refl _) _⟩
      · skip
        have HTK : Hid (tokM s i = .error (i, 10)) := by
          show tokM s i = _
          unfold tokM; rw [if_neg (by simp [hsm]), if_neg (by simp [hdg]; omega), if_neg (by omega), if_neg h10]
        have q10 : ((((s[i]'hi).toNat : Nat) : Int) == 10) = false := beq_eq_false_iff_ne.2 (by rw [bt_get hi]; omega)
        have r0 : isSm (s[i]'hi).toNat = false := by rw [bt_get hi]; exact hsm
        have r1 : isDg (s[i]'hi).toNat = false := by rw [bt_get hi]; exact hdg
        have q45 : ((((s[i]'hi).toNat : Nat) : Int) == 45) = false := beq_eq_false_iff_ne.2 (by rw [bt_get hi]; omega)
        have q40 : ((((s[i]'hi).toNat : Nat) : Int) == 40) = false := beq_eq_false_iff_ne.2 (by rw [bt_get hi]; omega)
        have q41 : ((((s[i]'hi).toNat : Nat) : Int) == 41) = false := beq_eq_false_iff_ne.2 (by rw [bt_get hi]; omega)
        have q91 : ((((s[i]'hi).toNat : Nat) : Int) == 91) = false := beq_eq_false_iff_ne.2 (by rw [bt_get hi]; omega)
        have q93 : ((((s[i]'hi).toNat : Nat) : Int) == 93) = false := beq_eq_false_iff_ne.2 (by rw [bt_get hi]; omega)
        go_enter Tryz.func39, Tryz.ntmps39
        go_wp2_with (first | (go_at_call 61; refine (at_c _ _ _ (by omega)).mono ?_; rintro e w' ⟨rfl, rfl⟩) | (go_at_call 62; refine (dg_c _ _).mono ?_; rintro e w' ⟨rfl, rfl⟩) | (go_at_call 60; refine (lt_c _ _).mono ?_; rintro e w' ⟨rfl, rfl⟩))
        rw [HTK.out]
        exact bodyPost_ret (v := .tuple #[.agg #[.int .i64 0, .int .i64 0, .string ByteArray.empty, .int .i64 0], .int .i64 0, .int .i64 ((i : Nat) : Int), .int .i64 (10)]) (by simp [results, Tryz.results23, go_sem] <;> rfl) rfl ⟨rfl, (Below.refl _ w).alloc (Nat.le_refl _) _⟩
end Go.Proofs.YtfgbjghfkdmcjaaGreatDoor
namespace Go.Proofs.YtfgbjghfkdmcjaaGreatDoor
set_option linter.unusedVariables false
set_option linter.unusedSimpArgs false
open Go.RowKit

/-- A slice whose length is within its capacity. -/
def Roomy (v : Value) : Prop := ∃ a n c, v = .slice a n c ∧ n ≤ c
theorem owns_roomy {w : World} {base e size n : Nat} {v : Value} {xs : List Value} (h : w.ownsRow base e size v n xs) : Roomy v := by
  rcases h.2 with ⟨rfl, _⟩ | ⟨g, cap, cur, rfl, _, _, hc, _⟩
  · exact ⟨_, _, _, rfl, Nat.le_refl _⟩
  · exact ⟨_, _, _, rfl, hc⟩

/-- What the reference's Scan answers. -/
def RefPost (w : World) (r : Except (Nat × Nat) (List MTok)) (e : Ending) (w' : World) : Prop :=
  match r with
  | .ok l => ∃ v, e = .returned (.tuple #[v, .int .i64 0, .int .i64 0]) ∧ ToksIn (fun b => w.heap.size ≤ b) w' v l ∧ Roomy v
  | .error (a, y) => e = .returned (.tuple #[.slice none 0 0, .int .i64 a, .int .i64 y])

theorem tokM_err {s : ByteArray} {i a y : Nat} (h : tokM s i = .error (a, y)) : ((y : Int) != 0) = true := by
  unfold tokM at h
  split at h
  · cases h
  · split at h
    · split at h
      · rename_i e he
        cases h
        exact numM_err he
      · cases h
    · split at h
      · cases h
      · split at h
        · cases h
        · cases h; rfl

set_option maxRecDepth 100000 in
set_option maxHeartbeats 4000000 in
theorem refScan_walk (s : ByteArray) (w : World) (hs : s.size ≤ 20000) :
    Calls Tryz.prog 13 #[.string s] w fun e w' => RefPost w (left s 0 []) e w' ∧ Below w.heap.size w w' := by
  obtain ⟨i0, hi0, hz0, hz1, hz2⟩ := info_parts Tryz.infoTok
  have hsd : decide ((20000 : Int) < (s.size : Int)) = false := by simp; omega
  go_enter Tryz.func13, Tryz.ntmps13
  go_wp2
  go_loopg [5, 6, 7, 8, 9, 10] s.size (fun g v at_ _ _ _ _ wr => ∃ (i : Nat) (rows : List (List Value)) (acc : List MTok), i ≤ s.size ∧ s.size - i ≤ g ∧ at_ = .int .i64 i ∧ acc.length ≤ i ∧ Aside (Below w.heap.size w wr) ∧ Aside (OutInv 51 4 TokRow w.heap.size wr v acc.length rows acc) ∧ Aside (left s 0 [] = left s i acc))
  case atStart => exact ⟨0, [], [], Nat.zero_le _, by omega, rfl, Nat.le_refl _, Below.refl _ _, OutInv.nil _ _ _ _ _, rfl⟩
  case round =>
    obtain ⟨i, rows, acc, hi, hg, rfl, hacc, BW, I, HL⟩ := hrel
    have hsz := BW.out.size
    by_cases hlt : i < s.size
    · have hlti : (i : Int) < (s.size : Int) := by omega
      by_cases hnb : bt s i = 32
      · have HT : Hid (left s 0 [] = left s (i + 1) acc) := HL.out.trans (left_blank acc hlt hnb)
        have q32 : ((((s[i]'hlt).toNat : Nat) : Int) == 32) = true := by rw [bt_get hlt, hnb]; rfl
        clear hnb
        go_wp2_with fail
        go_roundg (s.size - (i + 1))
        case measure => omega
        case rel => exact ⟨i + 1, rows, acc, by omega, by omega, by go_num, by omega, BW.out, I.out, HT.out⟩
      have q32 : ((((s[i]'hlt).toNat : Nat) : Int) == 32) = false := beq_eq_false_iff_ne.2 (by rw [bt_get hlt]; omega)
      have hc := refToken_any s i wr hs hlt
      cases hT : tokM s i with
      | error q =>
        obtain ⟨a, y⟩ := q
        have HEND : Hid (left s 0 [] = .error (a, y)) := HL.out.trans (left_bad acc hlt hnb hT)
        have hy := tokM_err hT
        rw [hT] at hc
        simp only [refTokVal] at hc
        have HC := hid hc
        clear hc hT hnb
        go_wp2_with fail
        refine HC.out.mono ?_
        rintro e' w1 ⟨rfl, hb1⟩
        have HB1 : Hid (Below w.heap.size w w1) := BW.out.trans (hb1.mono hsz)
        have hs1 : w.heap.size ≤ w1.heap.size := HB1.out.size
        clear hb1
        go_wp2_with fail
        rw [HEND.out]
        exact bodyPost_ret (v := .tuple #[.slice none 0 0, .int .i64 a, .int .i64 y]) (by simp [results, Tryz.results28, go_sem]) rfl ⟨rfl, HB1.out.alloc hs1 _⟩
      | ok q =>
        obtain ⟨t, k⟩ := q
        have hK := tokM_gt hT hlt
        have HLN := hid (left_good HL.out hlt hnb hT)
        rw [hT] at hc
        obtain ⟨kd, ta, tx, nm⟩ := t
        simp only [refTokVal] at hc
        have HC := hid hc
        clear hc hT hnb
        go_wp2_with fail
        refine HC.out.mono ?_
        rintro e' w1 ⟨rfl, hb1⟩
        have hs1 : wr.heap.size ≤ w1.heap.size := hb1.size
        have HB1 := hid hb1
        clear hb1
        go_wp2_with (at_builtin; refine wpList_append_lies _ rfl _ _ 34 rfl w.heap.size 51 i0 _ 4 40 Tryz.underlying34 hi0 hz0 hz1 hz2 rfl (by decide) u5 acc.length rows.flatten rfl ?hown ⟨w1.heap.size + 1, 0, none⟩ 1 1 [.int .i64 kd, .int .i64 ta, .string tx, .int .i64 nm] rfl rfl ?hnews ?hone (by decide) ?h63 ?hby ?hbase (w1.heap.size + 2) ?hH ?_)
        case hown => exact I.out.own3 ((HB1.out.alloc hs1 _).alloc (by simp; omega) _)
        case hnews => exact World.news_of_block (by simpa using heap_alloc_new (w1.alloc (.cells #[.int .i64 kd, .int .i64 ta, .string tx, .int .i64 nm] 51)) (.cells #[.int .i64 kd, .int .i64 ta, .string tx, .int .i64 nm] 51))
        case hone => intro u hu; simp at hu; rcases hu with rfl | rfl | rfl | rfl <;> rfl
        case h63 => unfold maxLen; omega
        case hby => omega
        case hbase => simp; omega
        case hH => simp
        intro g cap w4 hown4 hgrow hat hglt
        have B3 : Below wr.heap.size wr ((w1.alloc (.cells #[.int .i64 kd, .int .i64 ta, .string tx, .int .i64 nm] 51)).alloc (.cells #[.int .i64 kd, .int .i64 ta, .string tx, .int .i64 nm] 51)) := (HB1.out.alloc hs1 _).alloc (by simp; omega) _
        have hbw4 : Below w.heap.size w w4 := BW.out.trans ((B3.mono hsz).grown hgrow (by simp; omega) (fun x hx => (I.out.own.lt x hx).1))
        have I4 := hid (OutInv.step (x := ((kd, ta, tx, nm) : MTok)) tokRow_keep I.out hsz B3 rfl rfl hown4 hgrow (by simpa using hat))
        have HBW4 := hid hbw4
        clear hown4 hgrow hat B3 hbw4
        go_wp2_with fail
        go_roundg (s.size - k)
        case measure => omega
        case rel => exact ⟨k, rows ++ [_], acc ++ [_], by omega, by omega, by go_num, by simp; omega, HBW4.out, (by show OutInv _ _ _ _ _ _ _ _ _; simpa using I4.out), HLN.out⟩
    · have hlti : ¬ (i : Int) < (s.size : Int) := by omega
      have HEND : Hid (left s 0 [] = .ok acc) := HL.out.trans (left_end acc hlt)
      go_wp2_with fail
      rw [HEND.out]
      exact bodyPost_ret (v := .tuple #[u5, .int .i64 0, .int .i64 0]) (by simp [results, Tryz.results28, go_sem]) rfl ⟨⟨_, rfl, OutInv.rows_in (bytes := 40) tokRow_keep I.out (by omega), owns_roomy I.out.own⟩, BW.out⟩

/-- A text that is too long. -/
theorem refScan_long (s : ByteArray) (w : World) (hs : 20000 < s.size) :
    Calls Tryz.prog 13 #[.string s] w fun e w' => RefPost w (.error (0, 4)) e w' ∧ Below w.heap.size w w' := by
  have hsd : decide ((20000 : Int) < (s.size : Int)) = true := by simp; omega
  have hsi : (20000 : Int) < (s.size : Int) := by omega
  go_enter Tryz.func13, Tryz.ntmps13
  go_wp2
  exact bodyPost_ret (v := .tuple #[.slice none 0 0, .int .i64 0, .int .i64 4]) (by simp [results, Tryz.results28, go_sem]) rfl ⟨rfl, Below.refl _ _⟩

theorem scan_long (s : ByteArray) (w : World) (hs : 20000 < s.size) :
    Calls Tryz.prog 10 #[.string s] w fun e w' => ScanPost w (.error (0, 4)) e w' ∧ Below w.heap.size w w' := by
  have hsi : (20000 : Int) < (s.size : Int) := by omega
  go_enter Tryz.func10, Tryz.ntmps10
  go_wp2
  go_step3
  go_wp2
  first | rw [Exit.noGoto_ret] | skip
  exact bodyPost_ret (v := .tuple #[.slice none 0 0, .iface 38 (.agg #[.int .i64 0, .int .i64 4])]) (by simp [results, Tryz.results8, go_sem]) rfl ⟨rfl, Below.refl _ _⟩
end Go.Proofs.YtfgbjghfkdmcjaaGreatDoor
namespace Go.Proofs.YtfgbjghfkdmcjaaGreatDoor
set_option linter.unusedVariables false
set_option linter.unusedSimpArgs false
open Go.RowKit

theorem why_nil (w : World) : Calls Tryz.prog 18 #[.nilIface] w fun e w' => e = .returned (.tuple #[.int .i64 0, .int .i64 0]) ∧ Below w.heap.size w w' := by
  go_enter Tryz.func18, Tryz.ntmps18
  go_wp2
  go_ret2
  exact ⟨rfl, Below.refl _ _⟩

theorem assertFault (a y : Int) (w : World) : (Instr.typeAssert (.iface 38 (.agg #[.int .i64 a, .int .i64 y])) 24 38 true).run Tryz.prog w = .ok (.tuple #[.agg #[.int .i64 a, .int .i64 y], .bool true]) w := by kernel_rfl

set_option maxRecDepth 100000 in
set_option maxHeartbeats 1000000 in
theorem why_fault (a y : Int) (w : World) : Calls Tryz.prog 18 #[.iface 38 (.agg #[.int .i64 a, .int .i64 y])] w fun e w' => e = .returned (.tuple #[.int .i64 y, .int .i64 a]) ∧ Below w.heap.size w w' := by
  have hta := assertFault a y
  go_enter Tryz.func18, Tryz.ntmps18
  go_wp2
  go_quiet (fail)
  go_wp2
  go_ret2
  exact ⟨rfl, below_drewN ((Below.refl _ _).alloc (Nat.le_refl _) _) _⟩
/-- An error is a number at a place. -/
theorem is_nil (w : World) : Calls Tryz.prog 6 #[.nilIface, .int .i64 0, .int .i64 0] w fun e w' => e = .returned (.bool true) ∧ Below w.heap.size w w' := by
  go_enter Tryz.func6, Tryz.ntmps6
  go_wp2_with (go_at_call 18; refine (why_nil _).mono ?_; rintro e w' ⟨rfl, hb⟩)
  go_ret
  exact ⟨rfl, hb⟩

theorem is_fault (a y : Int) (w : World) : Calls Tryz.prog 6 #[.iface 38 (.agg #[.int .i64 a, .int .i64 y]), .int .i64 a, .int .i64 y] w fun e w' => e = .returned (.bool true) ∧ Below w.heap.size w w' := by
  have h1 : (a == a) = true := by simp
  have h2 : (y == y) = true := by simp
  go_enter Tryz.func6, Tryz.ntmps6
  go_wp2_with (go_at_call 18; refine (why_fault _ _ _).mono ?_; rintro e w' ⟨rfl, hb⟩)
  go_ret
  exact ⟨by simp, hb⟩

/-- Scan and its reference, at any text. -/
theorem scan_any (s : ByteArray) (w : World) (te : TypeId) (pe : Value) (hv : w.cell? ⟨1, 0, none⟩ = some (.iface te pe)) :
    Calls Tryz.prog 10 #[.string s] w fun e w' => ScanPost w (scanM s) e w' ∧ Below w.heap.size w w' := by
  by_cases h : 20000 < s.size
  · unfold scanM; rw [if_pos h]; exact scan_long s w h
  · rw [scanM_left (by omega)]; exact scan_walk s w (by omega) te pe hv

theorem refScan_any (s : ByteArray) (w : World) : Calls Tryz.prog 13 #[.string s] w fun e w' => RefPost w (scanM s) e w' ∧ Below w.heap.size w w' := by
  by_cases h : 20000 < s.size
  · unfold scanM; rw [if_pos h]; exact refScan_long s w h
  · rw [scanM_left (by omega)]; exact refScan_walk s w (by omega)

end Go.Proofs.YtfgbjghfkdmcjaaGreatDoor
