/-
  What is printed of a report that may be is read back as it: the parser.
-/
import Derived.Test.YtkpomcimaofkkaaGreatDoorU28
namespace Go.Proofs.YtkpomcimaofkkaaGreatDoor.Rp
set_option linter.unusedVariables false
set_option linter.unusedSimpArgs false
open Go.RowKit Go.Lib

theorem rd_head {l : List MTok} {t : MTok} {rest : List MTok} (h : l.map bareT = t :: rest) : ∃ u l2, l = u :: l2 ∧ u.1 = t.1 ∧ u.2.2.1 = t.2.2.1 ∧ u.2.2.2 = t.2.2.2 ∧ l2.map bareT = rest := by
  cases l with
  | nil => cases h
  | cons u l2 =>
    rw [List.map_cons] at h
    obtain ⟨h1, h2⟩ := List.cons.inj h
    exact ⟨u, l2, rfl, by rw [← h1]; rfl, by rw [← h1]; rfl, by rw [← h1]; rfl, h2⟩
theorem rdb {α β : Type} {p : Qs α} {f : α → List MTok → Qs β} {x : α} {y : β} {mid rest : List MTok} (h1 : ∃ l2, p = some (x, l2) ∧ l2.map bareT = mid) (h2 : ∀ l2, l2.map bareT = mid → ∃ l3, f x l2 = some (y, l3) ∧ l3.map bareT = rest) : ∃ l3, andQ p f = some (y, l3) ∧ l3.map bareT = rest := by
  obtain ⟨l2, e, hm⟩ := h1
  rw [e]
  exact h2 l2 hm
theorem sees_yes {l : List MTok} {t : MTok} {rest : List MTok} {x : ByteArray} (h : l.map bareT = t :: rest) (hx : t.2.2.1.toList = x.toList) : qSees l x = true := by
  obtain ⟨u, l2, rfl, _, h2, _, _⟩ := rd_head h
  show (u.2.2.1.toList == x.toList) = true
  rw [h2, hx]
  simp
theorem sees_no {l : List MTok} {t : MTok} {rest : List MTok} {x : ByteArray} (h : l.map bareT = t :: rest) (hx : t.2.2.1.toList ≠ x.toList) : qSees l x = false := by
  obtain ⟨u, l2, rfl, _, h2, _, _⟩ := rd_head h
  show (u.2.2.1.toList == x.toList) = false
  rw [h2]
  simpa using hx
theorem rd_text {l : List MTok} {t : MTok} {rest : List MTok} {x : ByteArray} (hx : t.2.2.1 = x) (h : l.map bareT = t :: rest) : ∃ l2, qText x l = some ((), l2) ∧ l2.map bareT = rest := by
  have hs := sees_yes h (congrArg ByteArray.toList hx)
  obtain ⟨u, l2, rfl, _, _, _, h4⟩ := rd_head h
  exact ⟨l2, by unfold qText; rw [if_pos hs]; rfl, h4⟩
theorem rd_take {l : List MTok} {t : MTok} {rest : List MTok} {k : Int} (hk : t.1 = k) (h : l.map bareT = t :: rest) : ∃ u l2, qTake k l = some (u, l2) ∧ u.2.2.1 = t.2.2.1 ∧ u.2.2.2 = t.2.2.2 ∧ l2.map bareT = rest := by
  obtain ⟨u, l2, rfl, h1, h2, h3, h4⟩ := rd_head h
  exact ⟨u, l2, if_pos (h1.trans hk), h2, h3, h4⟩
theorem rd_num {l : List MTok} {n : Int} {rest : List MTok} (h : l.map bareT = tn n :: rest) : ∃ l2, qNum l = some (n, l2) ∧ l2.map bareT = rest := by
  obtain ⟨u, l2, e, h2, h3, h4⟩ := rd_take (k := 2) rfl h
  refine ⟨l2, ?_, h4⟩
  unfold qNum
  rw [e]
  show some (u.2.2.2, l2) = _
  rw [h3]
  rfl
theorem rd_one {l : List MTok} {x : ByteArray} {rest : List MTok} {ws : List ByteArray} {n : Nat} {k : Int} (hi : idxB x ws 0 = some n) (hk : (n : Int) = k) (h : l.map bareT = tw x :: rest) : ∃ l2, qOne ws l = some (k, l2) ∧ l2.map bareT = rest := by
  obtain ⟨u, l2, e, h2, h3, h4⟩ := rd_take (k := 1) rfl h
  refine ⟨l2, ?_, h4⟩
  unfold qOne
  rw [e]
  show (match idxB u.2.2.1 ws 0 with
    | some n => some ((n : Int), l2)
    | none => none) = _
  rw [h2, show (tw x).2.2.1 = x from rfl, hi]
  show some ((n : Int), l2) = _
  rw [hk]
theorem rd_either {l : List MTok} {y n : ByteArray} (b : Bool) {rest : List MTok} (hne : n.toList ≠ y.toList) (h : l.map bareT = tw (eiB b y n) :: rest) : ∃ l2, qEither y n l = some (b, l2) ∧ l2.map bareT = rest := by
  unfold qEither
  cases b with
  | true =>
    rw [if_pos (sees_yes h (by rfl))]
    exact rdb (rd_text (by rfl) h) fun l h => ⟨l, rfl, h⟩
  | false =>
    rw [if_neg (by rw [sees_no h (by exact hne)]; simp)]
    exact rdb (rd_text (by rfl) h) fun l h => ⟨l, rfl, h⟩
theorem toList_nil {k : ByteArray} (h : k.toList = []) : k = ⟨#[]⟩ := by
  apply ByteArray.ext
  rw [ByteArray.toList_eq] at h
  exact Array.toList_eq_nil_iff.1 h
theorem word_noMark {k : ByteArray} (h : isWordB k = true) {m : ByteArray} {b : UInt8} (hm : m.data.toList = [b]) (hb : isSm b.toNat = false) : k.toList ≠ m.toList := by
  obtain ⟨c, r, h1, h2, h3⟩ := word_form h
  intro e
  rw [ByteArray.toList_eq, ByteArray.toList_eq, h1, hm] at e
  have := (List.cons.inj e).1
  rw [this, hb] at h2
  cases h2
theorem rd_key {l : List MTok} {k : ByteArray} {rest : List MTok} (hk : keyN k = true) (h : l.map bareT = kT k ++ rest) : ∃ l2, qKey l = some (k, l2) ∧ l2.map bareT = rest := by
  unfold kT at h
  unfold qKey
  by_cases h0 : k.toList = []
  · rw [if_pos h0] at h
    rw [toList_nil h0]
    refine rdb (rd_text (t := tm mOpen) rfl h) fun l h => ?_
    rw [if_pos (sees_yes (x := mClose) h rfl)]
    exact rdb (rd_text (t := tm mClose) rfl h) fun l h => ⟨l, rfl, h⟩
  · rw [if_neg h0] at h
    have hw : isWordB k = true := by
      rcases keyN_yes hk with q | q
      · exact absurd q h0
      · exact q.1
    refine rdb (rd_text (t := tm mOpen) rfl h) fun l h => ?_
    rw [if_neg (by rw [sees_no h (by exact word_noMark hw (b := 41) rfl (by decide))]; simp)]
    obtain ⟨u, l2, e, h2, h3, h4⟩ := rd_take (k := 1) rfl h
    rw [e]
    show ∃ l3, andQ (qText mClose l2) (fun _ r => some (u.2.2.1, r)) = some (k, l3) ∧ _
    rw [h2]
    exact rdb (rd_text (t := tm mClose) rfl h4) fun l h => ⟨l, rfl, h⟩
/-- The rest does not begin with a line's end. -/
def NoNL (rest : List MTok) : Prop := ∀ t r, rest = t :: r → t.1 ≠ 4
theorem lines_no {l rest : List MTok} (hC : NoNL rest) (h : l.map bareT = rest) : qLines l = l := by
  cases l with
  | nil => rfl
  | cons u l =>
    have := hC (bareT u) (l.map bareT) (by rw [← h]; rfl)
    exact if_neg (by exact this)
theorem rd_lineEnd {l rest : List MTok} (hC : NoNL rest) (h : l.map bareT = tl :: rest) : ∃ l2, qLineEnd l = some ((), l2) ∧ l2.map bareT = rest := by
  obtain ⟨u, l2, e, _, _, h4⟩ := rd_take (k := 4) rfl h
  refine ⟨l2, ?_, h4⟩
  unfold qLineEnd
  rw [e]
  show some ((), qLines l2) = _
  rw [lines_no hC h4]
theorem idxB_data (x : ByteArray) : ∀ (ws : List ByteArray) (k : Nat), idxB x ws k = (ws.findIdx? fun y => x.data.toList == y.data.toList).map (· + k)
  | [], k => rfl
  | y :: ys, k => by
    unfold idxB
    rw [ByteArray.toList_eq, ByteArray.toList_eq, List.findIdx?_cons]
    cases h : x.data.toList == y.data.toList with
    | true => simp
    | false =>
      rw [if_neg (by simp), idxB_data x ys (k + 1)]
      simp only [Bool.false_eq_true, if_false, Option.map_map]
      congr 1
      funext z
      simp
      omega
theorem word_ix {ws : List ByteArray} (hw : ∀ k, k < ws.length → (ws.getD k default).data.toList = [] ∨ (ws.findIdx? fun y => (ws.getD k default).data.toList == y.data.toList) = some k) (ho : ∀ x ∈ ws, x.data.toList = [] ∨ isWordB x = true) {k : Int} (h : (wordN ws k).toList ≠ []) : idxB (wordN ws k) ws 0 = some k.toNat ∧ (k.toNat : Int) = k := by
  obtain ⟨_, h1, h2, h3⟩ := wordN_ok ho h
  rw [h3] at h ⊢
  rcases hw k.toNat (by omega) with q | q
  · rw [ByteArray.toList_eq] at h; exact absurd q h
  · exact ⟨by rw [idxB_data, q]; rfl, by omega⟩
theorem kinds_ix : ∀ k, k < kindWs.length → (kindWs.getD k default).data.toList = [] ∨ (kindWs.findIdx? fun y => (kindWs.getD k default).data.toList == y.data.toList) = some k := by decide
theorem labels_ix : ∀ k, k < labelWs.length → (labelWs.getD k default).data.toList = [] ∨ (labelWs.findIdx? fun y => (labelWs.getD k default).data.toList == y.data.toList) = some k := by decide
theorem answers_ix : ∀ k, k < answerWs.length → (answerWs.getD k default).data.toList = [] ∨ (answerWs.findIdx? fun y => (answerWs.getD k default).data.toList == y.data.toList) = some k := by decide
theorem levels_ix : ∀ k, k < levelWs.length → (levelWs.findIdx? fun y => (levelWs.getD k default).data.toList == y.data.toList) = some k := by decide
theorem level_ix {k : Int} (h : levelN k = true) : idxB (nameN k) levelWs 0 = some k.toNat ∧ (k.toNat : Int) = k := by
  obtain ⟨_, h1, h2, h3⟩ := nameN_ok h
  rw [h3]
  have hl : levelWs.length = 6 := rfl
  exact ⟨by rw [idxB_data, levels_ix k.toNat (by omega)]; rfl, by omega⟩
theorem ne_yes : wNo.toList ≠ wYes.toList := by rw [ByteArray.toList_eq, ByteArray.toList_eq]; decide
theorem ne_real : wPlain.toList ≠ wReal.toList := by rw [ByteArray.toList_eq, ByteArray.toList_eq]; decide
theorem ne_nil : wValue.toList ≠ wNil.toList := by rw [ByteArray.toList_eq, ByteArray.toList_eq]; decide
theorem ne_cond : wSure.toList ≠ wCond.toList := by rw [ByteArray.toList_eq, ByteArray.toList_eq]; decide
theorem rd_dep {x : MW} {l rest : List MTok} (hx : wrongD x = false) (h : l.map bareT = (wG x).flatten ++ rest) : ∃ l2, qDep l = some (x, l2) ∧ l2.map bareT = rest := by
  obtain ⟨h1, h2⟩ := wrongD_no hx
  have i1 := word_ix labels_ix labels_ok h1
  have e : (wG x).flatten ++ rest = tm mFrom :: tn x.1 :: tw (wordN labelWs x.2.2.1) :: tn x.2.1 :: (kT x.2.2.2.1 ++ (tn x.2.2.2.2.1 :: tn x.2.2.2.2.2.1 :: tw (eiB x.2.2.2.2.2.2.1 wNil wValue) :: tw (eiB x.2.2.2.2.2.2.2 wCond wSure) :: tm mTo :: rest)) := by simp [wG]
  rw [e] at h
  unfold qDep
  refine rdb (rd_text rfl h) fun l h => ?_
  refine rdb (rd_num h) fun l h => ?_
  refine rdb (rd_one i1.1 i1.2 h) fun l h => ?_
  refine rdb (rd_num h) fun l h => ?_
  refine rdb (rd_key h2 h) fun l h => ?_
  refine rdb (rd_num h) fun l h => ?_
  refine rdb (rd_num h) fun l h => ?_
  refine rdb (rd_either _ ne_nil h) fun l h => ?_
  refine rdb (rd_either _ ne_cond h) fun l h => ?_
  refine rdb (rd_text rfl h) fun l h => ?_
  exact ⟨l, rfl, h⟩
/-- The rest does not begin with a mark or word x. -/
def NoX (x : ByteArray) (rest : List MTok) : Prop := ∀ t r, rest = t :: r → t.2.2.1.toList ≠ x.toList
theorem sees_rest {l rest : List MTok} {x : ByteArray} (hC : NoX x rest) (h : l.map bareT = rest) : qSees l x = false := by
  cases rest with
  | nil =>
    have : l = [] := by simpa using h
    rw [this]; rfl
  | cons t r => exact sees_no h (hC t r rfl)
theorem rd_deps : ∀ (cyc acc : List MW) (f : Nat) (l rest : List MTok), (∀ x ∈ cyc, wrongD x = false) → NoX mFrom rest → cyc.length < f → l.map bareT = cyc.flatMap (fun x => (wG x).flatten) ++ rest → ∃ l2, qDeps f l acc = some (acc ++ cyc, l2) ∧ l2.map bareT = rest
  | cyc, acc, 0, l, rest, _, _, hf, _ => by omega
  | [], acc, f + 1, l, rest, _, hC, hf, h => by
    rw [deps_end (sees_rest hC h)]
    exact ⟨l, by rw [List.append_nil], h⟩
  | x :: cyc, acc, f + 1, l, rest, hx, hC, hf, h => by
    rw [List.flatMap_cons, List.append_assoc] at h
    have hs : qSees l mFrom = true := by
      have e : (wG x).flatten ++ (cyc.flatMap (fun x => (wG x).flatten) ++ rest) = tm mFrom :: (((wG x).flatten).tail ++ (cyc.flatMap (fun x => (wG x).flatten) ++ rest)) := by simp [wG]
      rw [e] at h
      exact sees_yes h rfl
    rw [deps_more hs]
    refine rdb (rd_dep (hx x (by simp)) h) fun l h => ?_
    obtain ⟨l2, e, h2⟩ := rd_deps cyc (acc ++ [x]) f l rest (fun y hy => hx y (by simp [hy])) hC (by simp at hf; omega) h
    exact ⟨l2, by rw [e]; simp, h2⟩
theorem flat_flat (cyc : List MW) : (cyc.flatMap wG).flatten = cyc.flatMap (fun x => (wG x).flatten) := by
  induction cyc with
  | nil => rfl
  | cons x l ih => rw [List.flatMap_cons, List.flatten_append, ih, List.flatMap_cons]
theorem deps_few (cyc : List MW) : cyc.length ≤ (cyc.flatMap (fun x => (wG x).flatten)).length := by
  induction cyc with
  | nil => simp
  | cons x l ih =>
    rw [List.flatMap_cons, List.length_append, List.length_cons]
    have : 1 ≤ ((wG x).flatten).length := by simp [wG]
    omega
theorem rd_an {a : MA} {l rest : List MTok} (ha : wrongA a = false) (hC : NoX mFrom rest) (h : l.map bareT = (aG a).flatten ++ rest) : ∃ l2, qAn l = some (a, l2) ∧ l2.map bareT = rest := by
  obtain ⟨h1, h2, h3, h4, h5⟩ := wrongA_no ha
  have i1 := word_ix kinds_ix kinds_ok h1
  have i2 := level_ix h3
  have e : (aG a).flatten ++ rest = tw wAnomaly :: tw (wordN kindWs a.1) :: tn a.2.1 :: tn a.2.2.1 :: tn a.2.2.2.1 :: (kT a.2.2.2.2.1 ++ (tn a.2.2.2.2.2.1 :: tw (eiB a.2.2.2.2.2.2.2.1 wReal wPlain) :: tw (nameN a.2.2.2.2.2.2.2.2) :: (a.cyc.flatMap (fun x => (wG x).flatten) ++ rest))) := by
    unfold aG
    rw [List.flatten_append, flat_flat]
    simp
  rw [e] at h
  unfold qAn
  refine rdb (rd_text rfl h) fun l h => ?_
  refine rdb (rd_one i1.1 i1.2 h) fun l h => ?_
  refine rdb (rd_num h) fun l h => ?_
  refine rdb (rd_num h) fun l h => ?_
  refine rdb (rd_num h) fun l h => ?_
  refine rdb (rd_key h2 h) fun l h => ?_
  refine rdb (rd_num h) fun l h => ?_
  refine rdb (rd_either _ ne_real h) fun l h => ?_
  refine rdb (rd_one i2.1 i2.2 h) fun l h => ?_
  refine rdb (rd_deps a.cyc [] (l.length + 1) l rest h5 hC (by
    have h6 := congrArg List.length h
    rw [List.length_map, List.length_append] at h6
    have := deps_few a.cyc
    omega) h) fun l h => ?_
  exact ⟨l, rfl, h⟩
theorem rd_ans : ∀ (al acc : List MA) (f : Nat) (l rest : List MTok), (∀ a ∈ al, wrongA a = false) → NoX wAnomaly rest → NoNL rest → al.length < f → l.map bareT = al.flatMap (fun a => (aG a).flatten ++ [tl]) ++ rest → ∃ l2, qAns f l acc = some (acc ++ al, l2) ∧ l2.map bareT = rest
  | al, acc, 0, l, rest, _, _, _, hf, _ => by omega
  | [], acc, f + 1, l, rest, _, hC, _, hf, h => by
    rw [ans_end (sees_rest hC h)]
    exact ⟨l, by rw [List.append_nil], h⟩
  | a :: al, acc, f + 1, l, rest, ha, hC, hN, hf, h => by
    rw [List.flatMap_cons, List.append_assoc, List.append_assoc, List.singleton_append] at h
    have hs : qSees l wAnomaly = true := by
      have e : (aG a).flatten ++ tl :: (al.flatMap (fun a => (aG a).flatten ++ [tl]) ++ rest) = tw wAnomaly :: (((aG a).flatten).tail ++ tl :: (al.flatMap (fun a => (aG a).flatten ++ [tl]) ++ rest)) := by simp [aG]
      rw [e] at h
      exact sees_yes h rfl
    rw [ans_more hs]
    refine rdb (rd_an (ha a (by simp)) (by
      intro t r e
      have := (List.cons.inj e).1
      rw [← this]
      show (⟨#[10]⟩ : ByteArray).toList ≠ mFrom.toList
      rw [ByteArray.toList_eq, ByteArray.toList_eq]
      decide) h) fun l h => ?_
    refine rdb (rd_lineEnd (by
      cases al with
      | nil => exact hN
      | cons b al =>
        intro t r e
        rw [List.flatMap_cons] at e
        have e2 : ((aG b).flatten ++ [tl] ++ al.flatMap (fun a => (aG a).flatten ++ [tl])) ++ rest = tw wAnomaly :: ((((aG b).flatten).tail ++ [tl] ++ al.flatMap (fun a => (aG a).flatten ++ [tl])) ++ rest) := by simp [aG]
        rw [e2] at e
        have := (List.cons.inj e).1
        rw [← this]
        show (1 : Int) ≠ 4
        decide) h) fun l h => ?_
    obtain ⟨l2, e, h2⟩ := rd_ans al (acc ++ [a]) f l rest (fun y hy => ha y (by simp [hy])) hC hN (by simp at hf; omega) h
    exact ⟨l2, by rw [e]; simp, h2⟩
theorem ans_few (al : List MA) : al.length ≤ (al.flatMap (fun a => (aG a).flatten ++ [tl])).length := by
  induction al with
  | nil => simp
  | cons x l ih =>
    rw [List.flatMap_cons, List.length_append, List.length_cons, List.length_append]
    simp only [List.length_cons, List.length_nil]
    omega
theorem num_noClose {n : Int} : (decB n).toList ≠ mClose.toList := by
  intro e
  rw [ByteArray.toList_eq, ByteArray.toList_eq] at e
  have e2 : decimal n = [41] := e
  unfold decimal at e2
  split at e2
  · have := dec_digits n.toNat 41 (by rw [e2]; simp)
    exact absurd this (by decide)
  · have := (List.cons.inj e2).1
    exact absurd this (by decide)
theorem rd_nums : ∀ (os acc : List Int) (f : Nat) (l rest : List MTok), os.length < f → l.map bareT = os.map tn ++ tm mClose :: rest → ∃ l2, qNums f l acc = some (acc ++ os, l2) ∧ l2.map bareT = tm mClose :: rest
  | os, acc, 0, l, rest, hf, _ => by omega
  | [], acc, f + 1, l, rest, hf, h => by
    unfold qNums
    rw [if_pos (sees_yes (x := mClose) h rfl)]
    exact ⟨l, by rw [List.append_nil], h⟩
  | n :: os, acc, f + 1, l, rest, hf, h => by
    unfold qNums
    rw [if_neg (by rw [sees_no h num_noClose]; simp)]
    refine rdb (rd_num h) fun l h => ?_
    obtain ⟨l2, e, h2⟩ := rd_nums os (acc ++ [n]) f l rest (by simp at hf; omega) h
    exact ⟨l2, by rw [e]; simp, h2⟩
theorem rd_order {os : List Int} {l rest : List MTok} (h : l.map bareT = tm mOpen :: (os.map tn ++ tm mClose :: rest)) : ∃ l2, qOrder l = some (os, l2) ∧ l2.map bareT = rest := by
  unfold qOrder
  refine rdb (rd_text rfl h) fun l h => ?_
  refine rdb (rd_nums os [] (l.length + 1) l rest (by
    have h6 := congrArg List.length h
    rw [List.length_map, List.length_append, List.length_map] at h6
    omega) h) fun l h => ?_
  exact rdb (rd_text rfl h) fun l h => ⟨l, rfl, h⟩
theorem rd_end (r : MR) {l : List MTok} (h : l.map bareT = [tl]) : qEnd r l = some (r, []) := by
  obtain ⟨u, l2, rfl, h1, _, _, h4⟩ := rd_head h
  have : l2 = [] := by simpa using h4
  subst this
  unfold qEnd
  rw [if_pos (by show (if u.1 = 4 then qLines [] else _) = []; rw [if_pos (by rw [h1]; rfl)]; rfl)]
theorem nums_flat (os : List Int) : (os.map (fun n => [tn n])).flatten = os.map tn := by
  induction os with
  | nil => rfl
  | cons x l ih => rw [List.map_cons, List.flatten_cons, ih]; rfl
theorem ans_flat (x : Int) (os : List Int) : (ansG x os).flatten = tw wAnswer :: tw (wordN answerWs x) :: (if x = 1 then tm mOpen :: (os.map tn ++ [tm mClose]) else []) := by
  unfold ansG
  split
  · simp [nums_flat]
  · simp
theorem bare_self {r : MR} : (rT r).map bareT = rT r := by
  have hk : ∀ k, (kT k).map bareT = kT k := fun k => by unfold kT; split <;> rfl
  have hw : ∀ x : MW, ((wG x).flatten).map bareT = (wG x).flatten := fun x => by
    have e : (wG x).flatten = tm mFrom :: tn x.1 :: tw (wordN labelWs x.2.2.1) :: tn x.2.1 :: (kT x.2.2.2.1 ++ [tn x.2.2.2.2.1, tn x.2.2.2.2.2.1, tw (eiB x.2.2.2.2.2.2.1 wNil wValue), tw (eiB x.2.2.2.2.2.2.2 wCond wSure), tm mTo]) := by simp [wG]
    rw [e]
    simp only [List.map_cons, List.map_append, hk, List.map_nil]
    rfl
  have hws : ∀ l : List MW, (l.flatMap (fun x => (wG x).flatten)).map bareT = l.flatMap (fun x => (wG x).flatten) := by
    intro l
    induction l with
    | nil => rfl
    | cons x l ih => rw [List.flatMap_cons, List.map_append, hw, ih]
  have ha : ∀ a : MA, ((aG a).flatten).map bareT = (aG a).flatten := fun a => by
    have e : (aG a).flatten = tw wAnomaly :: tw (wordN kindWs a.1) :: tn a.2.1 :: tn a.2.2.1 :: tn a.2.2.2.1 :: (kT a.2.2.2.2.1 ++ (tn a.2.2.2.2.2.1 :: tw (eiB a.2.2.2.2.2.2.2.1 wReal wPlain) :: tw (nameN a.2.2.2.2.2.2.2.2) :: a.cyc.flatMap (fun x => (wG x).flatten))) := by
      unfold aG
      rw [List.flatten_append, flat_flat]
      simp
    rw [e]
    simp only [List.map_cons, List.map_append, hk, hws]
    rfl
  have hal : ∀ l : List MA, (l.flatMap (fun a => (aG a).flatten ++ [tl])).map bareT = l.flatMap (fun a => (aG a).flatten ++ [tl]) := by
    intro l
    induction l with
    | nil => rfl
    | cons x l ih =>
      rw [List.flatMap_cons, List.map_append, List.map_append, ha, ih]
      rfl
  have hn : ∀ l : List Int, (l.map tn).map bareT = l.map tn := fun l => by rw [List.map_map]; rfl
  have ho : ∀ x os, ((ansG x os).flatten).map bareT = (ansG x os).flatten := by
    intro x os
    rw [ans_flat]
    split
    · simp only [List.map_cons, List.map_append, hn, List.map_nil]
      rfl
    · rfl
  unfold rT
  simp only [List.map_append, List.map_cons, hal, ho]
  rfl
/-- What is printed is read back. -/
theorem rd_rep {r : MR} {l : List MTok} (hr : canR r = true) (h : l.map bareT = rT r) : qRep l = some (r, []) := by
  obtain ⟨h1, h2, h3, h4, h5, h6⟩ := canR_yes hr
  obtain ⟨t, u, al, e, x, os⟩ := r
  simp only at h1 h2 h3 h4 h5 h6
  have i2 := level_ix h3
  have i3 := word_ix answers_ix answers_ok h4
  have eT : rT (t, u, al, e, x, os) = tw wTxns :: tn t :: tl :: tw wUnique :: tw (eiB u wYes wNo) :: tl :: (al.flatMap (fun a => (aG a).flatten ++ [tl]) ++ (tw wLevel :: tw (nameN e) :: tl :: ((ansG x os).flatten ++ [tl]))) := by
    unfold rT
    simp
  rw [eT] at h
  have key : ∃ l2, qRep l = some ((t, u, al, e, x, os), l2) ∧ l2.map bareT = [] := by
    unfold qRep
    have hq : qLines l = l := lines_no (by intro a b e; have := (List.cons.inj e).1; rw [← this]; show (1 : Int) ≠ 4; decide) h
    rw [hq]
    refine rdb (rd_text rfl h) fun l h => ?_
    refine rdb (rd_num h) fun l h => ?_
    refine rdb (rd_lineEnd (by intro a b e; have := (List.cons.inj e).1; rw [← this]; show (1 : Int) ≠ 4; decide) h) fun l h => ?_
    refine rdb (rd_text rfl h) fun l h => ?_
    refine rdb (rd_either _ ne_yes h) fun l h => ?_
    refine rdb (rd_lineEnd (by
      intro a b e2
      cases al with
      | nil => have := (List.cons.inj e2).1; rw [← this]; show (1 : Int) ≠ 4; decide
      | cons c al =>
        rw [List.flatMap_cons] at e2
        have e3 : ((aG c).flatten ++ [tl] ++ al.flatMap (fun a => (aG a).flatten ++ [tl])) ++ (tw wLevel :: tw (nameN e) :: tl :: ((ansG x os).flatten ++ [tl])) = tw wAnomaly :: ((((aG c).flatten).tail ++ [tl] ++ al.flatMap (fun a => (aG a).flatten ++ [tl])) ++ (tw wLevel :: tw (nameN e) :: tl :: ((ansG x os).flatten ++ [tl]))) := by simp [aG]
        rw [e3] at e2
        have := (List.cons.inj e2).1
        rw [← this]
        show (1 : Int) ≠ 4
        decide) h) fun l h => ?_
    refine rdb (rd_ans al [] (l.length + 1) l _ h2 (by
      intro a b e2
      have := (List.cons.inj e2).1
      rw [← this]
      show wLevel.toList ≠ wAnomaly.toList
      rw [ByteArray.toList_eq, ByteArray.toList_eq]
      decide) (by intro a b e2; have := (List.cons.inj e2).1; rw [← this]; show (1 : Int) ≠ 4; decide) (by
      have h6 := congrArg List.length h
      rw [List.length_map, List.length_append] at h6
      have := ans_few al
      omega) h) fun l h => ?_
    refine rdb (rd_text rfl h) fun l h => ?_
    refine rdb (rd_one i2.1 i2.2 h) fun l h => ?_
    refine rdb (rd_lineEnd (by
      intro a b e2
      have e3 : (ansG x os).flatten ++ [tl] = tw wAnswer :: (((ansG x os).flatten).tail ++ [tl]) := by simp [ansG]
      rw [e3] at e2
      have := (List.cons.inj e2).1
      rw [← this]
      show (1 : Int) ≠ 4
      decide) h) fun l h => ?_
    rw [ans_flat, List.cons_append, List.cons_append] at h
    refine rdb (rd_text rfl h) fun l h => ?_
    refine rdb (rd_one i3.1 i3.2 h) fun l h => ?_
    by_cases hx : x = 1
    · rw [if_pos hx] at h ⊢
      refine rdb (rd_order (rest := [tl]) (by rw [h, List.cons_append, List.append_assoc]; rfl)) fun l h => ?_
      exact ⟨[], rd_end _ h, rfl⟩
    · rw [if_neg hx] at h ⊢
      rcases h6 with q | q
      · exact absurd q hx
      · rw [q]
        exact ⟨[], rd_end _ h, rfl⟩
  obtain ⟨l2, e1, e2⟩ := key
  have : l2 = [] := by simpa using e2
  rw [e1, this]
/-- A report that may be, printed in at most 20000 bytes, is parsed as it. -/
theorem parse_print {r : MR} (h : canR r = true) (hr : RngR r) {s : ByteArray} (hs : s.data.toList = printB r) (hz : s.size ≤ 20000) : parseQ s = .ok r := by
  obtain ⟨l, e1, e2⟩ := scan_print h hr hs hz
  rw [bare_self] at e2
  exact parseQ_yes (z := (r, [])) e1 (rd_rep h e2) h
end Go.Proofs.YtkpomcimaofkkaaGreatDoor.Rp
