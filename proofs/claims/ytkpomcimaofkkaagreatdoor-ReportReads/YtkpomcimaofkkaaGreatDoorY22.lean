/-
  What is read has small keys; whether a report may be, by the document's words.
  The document's Can: keys, labels, an anomaly, a report.
-/
import Derived.Test.YtkpomcimaofkkaaGreatDoorY21
namespace Go.Proofs.YtkpomcimaofkkaaGreatDoor.Rp
set_option linter.unusedVariables false
set_option linter.unusedSimpArgs false
open Go.RowKit Go.Lib

/-- Tokens of few bytes each. -/
def Sm (l : List MTok) : Prop := ∀ t ∈ l, t.2.2.1.size ≤ 20000
theorem Sm.suf {l l' : List MTok} (h : Sm l) (hs : l' <:+ l) : Sm l' := fun t ht => h t (hs.subset ht)
theorem tokM_sm {s : ByteArray} {i k : Nat} {t : MTok} (h : tokM s i = .ok (t, k)) (hs : s.size ≤ 20000) : t.2.2.1.size ≤ 20000 := by
  have he : ∀ a b : Nat, (s.extract a b).size ≤ 20000 := fun a b => by rw [ByteArray.size_extract]; omega
  unfold tokM at h
  split at h
  · cases h; exact he _ _
  · split at h
    · split at h
      · cases h
      · cases h; exact he _ _
    · split at h
      · cases h; exact he _ _
      · split at h
        · cases h; exact he _ _
        · cases h
theorem scanFrom_sm {s : ByteArray} (hs : s.size ≤ 20000) : ∀ (f i : Nat) (acc l : List MTok), Sm acc → scanFrom s f i acc = .ok l → Sm l
  | 0, i, acc, l, ha, h => by cases h; exact ha
  | f + 1, i, acc, l, ha, h => by
    unfold scanFrom at h
    split at h
    · split at h
      · exact scanFrom_sm hs f _ _ _ ha h
      · split at h
        · cases h
        · rename_i t k ht
          refine scanFrom_sm hs f _ _ _ (fun u hu => ?_) h
          rcases List.mem_append.1 hu with q | q
          · exact ha u q
          · simp at q; subst q; exact tokM_sm ht hs
    · cases h; exact ha
theorem scanM_sm {s : ByteArray} {l : List MTok} (h : scanM s = .ok l) : Sm l := by
  have hs := (scanM_few h).2
  unfold scanM at h
  rw [if_neg (by omega)] at h
  exact scanFrom_sm hs _ _ _ _ (fun t ht => by cases ht) h
/-- What is read has a property, and what is left is of few bytes each. -/
def AllS {α : Type} (P : α → Prop) (p : Qs α) : Prop := ∀ x r, p = some (x, r) → P x ∧ Sm r
theorem AllS.bind {α β : Type} {Q : α → Prop} {P : β → Prop} {p : Qs α} {f : α → List MTok → Qs β} (h : AllS Q p) (hf : ∀ x r, Q x → Sm r → AllS P (f x r)) : AllS P (andQ p f) := by
  intro y s e
  cases p with
  | none => cases e
  | some z => exact hf z.1 z.2 (h z.1 z.2 rfl).1 (h z.1 z.2 rfl).2 y s e
theorem AllS.done {α : Type} {P : α → Prop} {x : α} {l : List MTok} (h : P x) (hl : Sm l) : AllS P (some (x, l) : Qs α) := by
  intro y r e; cases e; exact ⟨h, hl⟩
abbrev anyP {α : Type} : α → Prop := fun _ => True
theorem take_sm {l : List MTok} (h : Sm l) (k : Int) : AllS (fun t : MTok => t.2.2.1.size ≤ 20000) (qTake k l) := by
  intro x r e
  cases l with
  | nil => cases e
  | cons t l =>
    by_cases c : t.1 = k
    · rw [show qTake k (t :: l) = some (t, l) from if_pos c] at e; cases e; exact ⟨h _ (by simp), h.suf (List.suffix_cons _ _)⟩
    · rw [show qTake k (t :: l) = none from if_neg c] at e; cases e
theorem text_sm {l : List MTok} (h : Sm l) (x : ByteArray) : AllS (anyP (α := Unit)) (qText x l) := by
  intro y r e
  unfold qText at e
  split at e
  · cases e; exact ⟨trivial, h.suf (List.tail_suffix l)⟩
  · cases e
theorem num_sm {l : List MTok} (h : Sm l) : AllS (anyP (α := Int)) (qNum l) := AllS.bind (take_sm h 2) fun t r _ hr => AllS.done trivial hr
theorem one_sm {l : List MTok} (h : Sm l) (ws : List ByteArray) : AllS (anyP (α := Int)) (qOne ws l) := AllS.bind (take_sm h 1) fun t r _ hr => by
  intro y s e
  cases h : idxB t.2.2.1 ws 0 with
  | none => rw [h] at e; cases e
  | some n => rw [h] at e; cases e; exact ⟨trivial, hr⟩
theorem either_sm {l : List MTok} (h : Sm l) (y n : ByteArray) : AllS (anyP (α := Bool)) (qEither y n l) := by
  unfold qEither
  split
  · exact AllS.bind (text_sm h y) fun _ r _ hr => AllS.done trivial hr
  · exact AllS.bind (text_sm h n) fun _ r _ hr => AllS.done trivial hr
theorem lineEnd_sm {l : List MTok} (h : Sm l) : AllS (anyP (α := Unit)) (qLineEnd l) := AllS.bind (take_sm h 4) fun t r _ hr => AllS.done trivial (hr.suf (lines_suf r))
theorem key_sm {l : List MTok} (h : Sm l) : AllS (fun s : ByteArray => s.size ≤ 20000) (qKey l) := AllS.bind (text_sm h mOpen) fun _ r _ hr => by
  split
  · exact AllS.bind (text_sm hr mClose) fun _ r _ hr => AllS.done (by show (⟨#[]⟩ : ByteArray).size ≤ 20000; decide) hr
  · exact AllS.bind (take_sm hr 1) fun t r ht hr => AllS.bind (text_sm hr mClose) fun _ r _ hr => AllS.done ht hr
/-- Small keys. -/
abbrev SmW (x : MW) : Prop := x.2.2.2.1.size ≤ 20000
def SmA (a : MA) : Prop := a.2.2.2.2.1.size ≤ 20000 ∧ ∀ x ∈ a.cyc, SmW x
def SmR (r : MR) : Prop := ∀ a ∈ r.2.2.1, SmA a
theorem dep_sm {l : List MTok} (h : Sm l) : AllS SmW (qDep l) :=
  AllS.bind (text_sm h _) fun _ l _ h => AllS.bind (num_sm h) fun _ l _ h => AllS.bind (one_sm h _) fun _ l _ h => AllS.bind (num_sm h) fun _ l _ h => AllS.bind (key_sm h) fun _ l hk h =>
  AllS.bind (num_sm h) fun _ l _ h => AllS.bind (num_sm h) fun _ l _ h => AllS.bind (either_sm h _ _) fun _ l _ h => AllS.bind (either_sm h _ _) fun _ l _ h => AllS.bind (text_sm h _) fun _ l _ h => AllS.done hk h
theorem deps_sm : ∀ (f : Nat) {l : List MTok} (h : Sm l) (acc : List MW), (∀ x ∈ acc, SmW x) → AllS (fun xs : List MW => ∀ x ∈ xs, SmW x) (qDeps f l acc)
  | 0, l, h, acc, ha => AllS.done ha h
  | f + 1, l, h, acc, ha => by
    cases hs : qSees l mFrom with
    | false => rw [deps_end hs]; exact AllS.done ha h
    | true =>
      rw [deps_more hs]
      refine AllS.bind (dep_sm h) fun x r hx hr => deps_sm f hr _ fun y hy => ?_
      rcases List.mem_append.1 hy with q | q
      · exact ha y q
      · simp at q; subst q; exact hx
theorem an_sm {l : List MTok} (h : Sm l) : AllS SmA (qAn l) :=
  AllS.bind (text_sm h _) fun _ l _ h => AllS.bind (one_sm h _) fun _ l _ h => AllS.bind (num_sm h) fun _ l _ h => AllS.bind (num_sm h) fun _ l _ h => AllS.bind (num_sm h) fun _ l _ h => AllS.bind (key_sm h) fun _ l hk h =>
  AllS.bind (num_sm h) fun _ l _ h => AllS.bind (either_sm h _ _) fun _ l _ h => AllS.bind (one_sm h _) fun _ l _ h => AllS.bind (deps_sm _ h [] (fun x hx => by cases hx)) fun _ l hc h => AllS.done ⟨hk, hc⟩ h
theorem ans_sm : ∀ (f : Nat) {l : List MTok} (h : Sm l) (acc : List MA), (∀ a ∈ acc, SmA a) → AllS (fun xs : List MA => ∀ a ∈ xs, SmA a) (qAns f l acc)
  | 0, l, h, acc, ha => AllS.done ha h
  | f + 1, l, h, acc, ha => by
    cases hs : qSees l wAnomaly with
    | false => rw [ans_end hs]; exact AllS.done ha h
    | true =>
      rw [ans_more hs]
      refine AllS.bind (an_sm h) fun x r hx hr => AllS.bind (lineEnd_sm hr) fun _ r _ hr => ans_sm f hr _ fun y hy => ?_
      rcases List.mem_append.1 hy with q | q
      · exact ha y q
      · simp at q; subst q; exact hx
theorem rep_sm {T : List MTok} (h : Sm T) {x : MR} {r : List MTok} (e : qRep T = some (x, r)) : SmR x := by
  have hq : AllS SmR (qRep T) := by
    refine AllS.bind (text_sm (h.suf (lines_suf T)) _) fun _ l _ h => AllS.bind (num_sm h) fun _ l _ h => AllS.bind (lineEnd_sm h) fun _ l _ h => AllS.bind (text_sm h _) fun _ l _ h => AllS.bind (either_sm h _ _) fun _ l _ h => AllS.bind (lineEnd_sm h) fun _ l _ h => ?_
    refine AllS.bind (ans_sm _ h [] (fun x hx => by cases hx)) fun al l ha h => ?_
    refine AllS.bind (text_sm h _) fun _ l _ h => AllS.bind (one_sm h _) fun _ l _ h => AllS.bind (lineEnd_sm h) fun _ l _ h => AllS.bind (text_sm h _) fun _ l _ h => AllS.bind (one_sm h _) fun _ l _ h => ?_
    have hend : ∀ (r : MR) (l : List MTok), SmR r → AllS SmR (qEnd r l) := by
      intro r l hr x s e
      unfold qEnd at e
      split at e
      · cases e; exact ⟨hr, fun t ht => by cases ht⟩
      · cases e
    split
    · intro x s e
      cases ho : qOrder l with
      | none => rw [ho] at e; cases e
      | some z =>
        rw [ho] at e
        refine hend _ z.2 ?_ x s e
        exact ha
    · refine hend _ l ?_
      exact ha
  exact (hq x r e).1
/-! Words of places. -/
theorem kind_word_is (k : Int) : ((wordN kindWs k).toList == (⟨#[]⟩ : ByteArray).toList) = (decide (k < 1) || decide (11 < k)) := by
  by_cases h : 1 ≤ k ∧ k ≤ 11
  · obtain ⟨n, rfl⟩ : ∃ n : Nat, k = n := ⟨k.toNat, by omega⟩
    have hr : (decide ((n : Int) < 1) || decide (11 < (n : Int))) = false := by simp; omega
    rw [hr]
    unfold wordN
    rw [if_pos ⟨by omega, by show (n : Int) < 12; omega⟩, ByteArray.toList_eq, ByteArray.toList_eq]
    rcases (by omega : n = 1 ∨ n = 2 ∨ n = 3 ∨ n = 4 ∨ n = 5 ∨ n = 6 ∨ n = 7 ∨ n = 8 ∨ n = 9 ∨ n = 10 ∨ n = 11) with rfl | rfl | rfl | rfl | rfl | rfl | rfl | rfl | rfl | rfl | rfl <;> rfl
  · have hr : (decide (k < 1) || decide (11 < k)) = true := by simp; omega
    rw [hr]
    unfold wordN
    by_cases h2 : 0 ≤ k ∧ k < (kindWs.length : Nat)
    · have h3 : k < 12 := h2.2
      have h0 : k = 0 := by omega
      subst h0
      rw [if_pos h2, ByteArray.toList_eq, ByteArray.toList_eq]
      rfl
    · rw [if_neg h2]; simp
theorem label_word_is (k : Int) : ((wordN labelWs k).toList == (⟨#[]⟩ : ByteArray).toList) = !((k == 1) || ((k == 2) || ((k == 4) || (k == 8)))) := by
  by_cases h2 : 0 ≤ k ∧ k < (labelWs.length : Nat)
  · have h3 : k < 9 := h2.2
    unfold wordN
    rw [if_pos h2, ByteArray.toList_eq, ByteArray.toList_eq]
    rcases (by omega : k = 0 ∨ k = 1 ∨ k = 2 ∨ k = 3 ∨ k = 4 ∨ k = 5 ∨ k = 6 ∨ k = 7 ∨ k = 8) with rfl | rfl | rfl | rfl | rfl | rfl | rfl | rfl | rfl <;> rfl
  · unfold wordN
    rw [if_neg h2]
    have h3 : ¬ (0 ≤ k ∧ k < 9) := h2
    have e1 : (k == 1) = false := by simpa using (by omega : ¬ k = 1)
    have e2 : (k == 2) = false := by simpa using (by omega : ¬ k = 2)
    have e4 : (k == 4) = false := by simpa using (by omega : ¬ k = 4)
    have e8 : (k == 8) = false := by simpa using (by omega : ¬ k = 8)
    rw [e1, e2, e4, e8]; simp
theorem answer_word_is (k : Int) : ((wordN answerWs k).toList == (⟨#[]⟩ : ByteArray).toList) = (decide (k < 0) || decide (3 < k)) := by
  by_cases h2 : 0 ≤ k ∧ k < (answerWs.length : Nat)
  · have h3 : k < 4 := h2.2
    have hr : (decide (k < 0) || decide (3 < k)) = false := by simp; omega
    rw [hr]
    unfold wordN
    rw [if_pos h2, ByteArray.toList_eq, ByteArray.toList_eq]
    rcases (by omega : k = 0 ∨ k = 1 ∨ k = 2 ∨ k = 3) with rfl | rfl | rfl | rfl <;> rfl
  · have h3 : ¬ (0 ≤ k ∧ k < 4) := h2
    have hr : (decide (k < 0) || decide (3 < k)) = true := by simp; omega
    rw [hr]
    unfold wordN
    rw [if_neg h2]; simp
end Go.Proofs.YtkpomcimaofkkaaGreatDoor.Rp
namespace Go.Proofs.YtkpomcimaofkkaaGreatDoor.Rp
set_option linter.unusedVariables false
set_option linter.unusedSimpArgs false
open Go.RowKit Go.Lib

set_option maxHeartbeats 2000000 in
set_option maxRecDepth 100000 in
theorem dKeyN_is (s : ByteArray) (w : World) (hs : s.size ≤ 9223372036854775806) : Calls Tryz.prog 108 #[.string s] w fun e w' => e = .returned (.bool (keyN s)) ∧ w = w' := by
  have K := hid (refKey_any s w hs)
  unfold keyN
  cases h : s.toList with
  | nil =>
    have he : s.toList.isEmpty = true := by rw [h]; rfl
    have h2 : (s.toList == []) = true := by rw [h]; rfl
    clear h
    go_enter Tryz.func108, Tryz.ntmps108
    go_wp2_with fail
    go_ret
    exact ⟨by simp, rfl⟩
  | cons x xs =>
    have he : s.toList.isEmpty = false := by rw [h]; rfl
    have h2 : (s.toList == []) = false := by rw [h]; rfl
    have h3 : ¬ s.toList = [] := by rw [h]; simp
    clear h
    go_enter Tryz.func108, Tryz.ntmps108
    go_wp2_with fail
    go_at_call 121
    refine K.out.mono ?_
    rintro e w' ⟨rfl, rfl⟩
    go_wp2_with fail
    go_ret
    exact ⟨by simp, rfl⟩
set_option maxHeartbeats 4000000 in
set_option maxRecDepth 100000 in
theorem dlabel_is (k : Int) (w : World) : Calls Tryz.prog 86 #[.int .i64 k] w fun e w' => e = .returned (.string (wordN labelWs k)) ∧ w = w' := by
  by_cases h1 : k = 1
  · subst h1
    go_enter Tryz.func86, Tryz.ntmps86
    go_wp2_with fail
    go_ret
    exact ⟨rfl, rfl⟩
  by_cases h2 : k = 2
  · subst h2
    go_enter Tryz.func86, Tryz.ntmps86
    go_wp2_with fail
    go_ret
    exact ⟨rfl, rfl⟩
  by_cases h4 : k = 4
  · subst h4
    go_enter Tryz.func86, Tryz.ntmps86
    go_wp2_with fail
    go_ret
    exact ⟨rfl, rfl⟩
  by_cases h8 : k = 8
  · subst h8
    go_enter Tryz.func86, Tryz.ntmps86
    go_wp2_with fail
    go_ret
    exact ⟨rfl, rfl⟩
  have HE : Hid (wordN labelWs k = ⟨#[]⟩) := by
    show _ = _
    unfold wordN
    by_cases hr : 0 ≤ k ∧ k < (labelWs.length : Nat)
    · rw [if_pos hr]
      have h3 : k < 9 := hr.2
      rcases (by omega : k = 0 ∨ k = 3 ∨ k = 5 ∨ k = 6 ∨ k = 7) with rfl | rfl | rfl | rfl | rfl <;> rfl
    · rw [if_neg hr]
  have b1 : (k == 1) = false := by simpa using h1
  have b2 : (k == 2) = false := by simpa using h2
  have b4 : (k == 4) = false := by simpa using h4
  have b8 : (k == 8) = false := by simpa using h8
  go_enter Tryz.func86, Tryz.ntmps86
  go_wp2_with fail
  go_ret
  exact ⟨by rw [HE.out]; rfl, rfl⟩
set_option maxHeartbeats 8000000 in
set_option maxRecDepth 100000 in
theorem dmay_is {S : Nat → Prop} (x0 x1 x2 x3 : Int) (x4 : ByteArray) (x5 : Int) (ca : Option Addr) (cyc : List MW) (cc : Nat) (x7 : Bool) (x8 : Int) (w : World) (hcy : WhysS S w (.slice ca cyc.length cc) cyc) (hm : cyc.length ≤ 20000) (hsm : SmA (x0, x1, x2, x3, x4, x5, cyc, x7, x8)) :
    Calls Tryz.prog 75 #[.agg #[.int .i64 x0, .int .i64 x1, .int .i64 x2, .int .i64 x3, .string x4, .int .i64 x5, .slice ca cyc.length cc, .bool x7, .int .i64 x8]] w fun e w' => e = .returned (.bool (!wrongA (x0, x1, x2, x3, x4, x5, cyc, x7, x8))) ∧ Below w.heap.size w w' := by
  have hs4 : x4.size ≤ 9223372036854775806 := by have h1 : x4.size ≤ 20000 := hsm.1; omega
  obtain ⟨W, hW⟩ : ∃ W, w.alloc (.cells #[.int .i64 x0, .int .i64 x1, .int .i64 x2, .int .i64 x3, .string x4, .int .i64 x5, .slice ca cyc.length cc, .bool x7, .int .i64 x8] 68) = W := ⟨_, rfl⟩
  obtain ⟨o, ho⟩ : ∃ o, w.heap.size = o := ⟨_, rfl⟩
  have BW1 : Hid (Below w.heap.size w W) := by rw [← hW]; exact below_box _ _
  have BX : BoxW W o 68 #[.int .i64 x0, .int .i64 x1, .int .i64 x2, .int .i64 x3, .string x4, .int .i64 x5, .slice ca cyc.length cc, .bool x7, .int .i64 x8] := by rw [← hW, ← ho]; exact box_new _ _ _
  have c0 : W.cell? ⟨o, 0, none⟩ = some (.int .i64 x0) := BX.cell 0
  have c4 : W.cell? ⟨o, 4, none⟩ = some (.string x4) := BX.cell 4
  have c6 : W.cell? ⟨o, 6, none⟩ = some (.slice ca cyc.length cc) := BX.cell 6
  have c8 : W.cell? ⟨o, 8, none⟩ = some (.int .i64 x8) := BX.cell 8
  have HW : Hid (wrongA (x0, x1, x2, x3, x4, x5, cyc, x7, x8) = (((((decide (x0 < 1) || decide (11 < x0)) || !keyN x4) || !levelN x8) || decide ((300 : Int) < (cyc.length : Int))) || cyc.any wrongD)) := by show ((((((wordN kindWs x0).toList == (⟨#[]⟩ : ByteArray).toList) || !keyN x4) || !levelN x8) || decide ((300 : Int) < (cyc.length : Int))) || cyc.any wrongD) = _; rw [kind_word_is]
  have HC := hid hcy
  have HSM := hid hsm
  have KN := hid (fun V => dKeyN_is x4 V hs4)
  obtain ⟨q, hq⟩ : ∃ q, keyN x4 = q := ⟨_, rfl⟩
  rw [hq] at HW KN
  clear hq BX hcy hsm hs4
  by_cases h1 : x0 < 1
  · have HT : Hid (wrongA (x0, x1, x2, x3, x4, x5, cyc, x7, x8) = true) := by show _ = _; rw [HW.out]; simp [h1]
    clear HW HC HSM
    go_enter Tryz.func75, Tryz.ntmps75
    go_wp2_with (go_at_call 108; refine (KN.out _).mono ?_; rintro e w2 ⟨rfl, rfl⟩)
    go_ret
    exact ⟨by rw [HT.out]; rfl, by first | exact BW1.out | (rw [← ho]; exact BW1.out)⟩
  by_cases h2 : 11 < x0
  · have HT : Hid (wrongA (x0, x1, x2, x3, x4, x5, cyc, x7, x8) = true) := by show _ = _; rw [HW.out]; simp [h2]
    clear HW HC HSM
    go_enter Tryz.func75, Tryz.ntmps75
    go_wp2_with (go_at_call 108; refine (KN.out _).mono ?_; rintro e w2 ⟨rfl, rfl⟩)
    go_ret
    exact ⟨by rw [HT.out]; rfl, by first | exact BW1.out | (rw [← ho]; exact BW1.out)⟩
  cases q with
  | false =>
    have HT : Hid (wrongA (x0, x1, x2, x3, x4, x5, cyc, x7, x8) = true) := by show _ = _; rw [HW.out]; simp
    clear HW HC HSM
    go_enter Tryz.func75, Tryz.ntmps75
    go_wp2_with (go_at_call 108; refine (KN.out _).mono ?_; rintro e w2 ⟨rfl, rfl⟩)
    go_ret
    exact ⟨by rw [HT.out]; rfl, by first | exact BW1.out | (rw [← ho]; exact BW1.out)⟩
  | true =>
    have HL : levelN x8 = (decide (0 ≤ x8) && decide (x8 < 6)) := rfl
    by_cases h3 : x8 < 0
    · have h9 : ¬ 0 ≤ x8 := by omega
      have HT : Hid (wrongA (x0, x1, x2, x3, x4, x5, cyc, x7, x8) = true) := by show _ = _; rw [HW.out, HL]; simp [h9]
      clear HW HC HSM HL h9
      go_enter Tryz.func75, Tryz.ntmps75
      go_wp2_with (go_at_call 108; refine (KN.out _).mono ?_; rintro e w2 ⟨rfl, rfl⟩)
      go_ret
      exact ⟨by rw [HT.out]; rfl, by first | exact BW1.out | (rw [← ho]; exact BW1.out)⟩
    by_cases h4 : 5 < x8
    · have h9 : ¬ x8 < 6 := by omega
      have HT : Hid (wrongA (x0, x1, x2, x3, x4, x5, cyc, x7, x8) = true) := by show _ = _; rw [HW.out, HL]; simp [h9]
      clear HW HC HSM HL h9
      go_enter Tryz.func75, Tryz.ntmps75
      go_wp2_with (go_at_call 108; refine (KN.out _).mono ?_; rintro e w2 ⟨rfl, rfl⟩)
      go_ret
      exact ⟨by rw [HT.out]; rfl, by first | exact BW1.out | (rw [← ho]; exact BW1.out)⟩
    by_cases h5 : (300 : Int) < (cyc.length : Int)
    · have HT : Hid (wrongA (x0, x1, x2, x3, x4, x5, cyc, x7, x8) = true) := by show _ = _; rw [HW.out]; simp [h5]
      clear HW HC HSM HL
      go_enter Tryz.func75, Tryz.ntmps75
      go_wp2_with (go_at_call 108; refine (KN.out _).mono ?_; rintro e w2 ⟨rfl, rfl⟩)
      go_ret
      exact ⟨by rw [HT.out]; rfl, by first | exact BW1.out | (rw [← ho]; exact BW1.out)⟩
    have HR : Hid (wrongA (x0, x1, x2, x3, x4, x5, cyc, x7, x8) = cyc.any wrongD) := by
      show _ = _
      have h8 : 0 ≤ x8 := by omega
      have h9 : x8 < 6 := by omega
      rw [HW.out, HL]
      simp [h1, h2, h5, h8, h9]
    clear HW HL
    go_enter Tryz.func75, Tryz.ntmps75
    go_wp2_with (go_at_call 108; refine (KN.out _).mono ?_; rintro e w2 ⟨rfl, rfl⟩)
    clear hW ho c0 c4 c6 c8 h1 h2 h3 h4 h5
    go_loopg [38] cyc.length (fun gg i wr => ∃ k : Nat, k ≤ cyc.length ∧ cyc.length - k ≤ gg ∧ i = .int .i64 k ∧ Aside (∀ j, j < k → wrongD (cyc.getD j default) = false) ∧ Aside (Below W.heap.size W wr))
    case atStart => exact ⟨0, Nat.zero_le _, by omega, rfl, fun j hj => by omega, Below.refl _ _⟩
    case round =>
      obtain ⟨k, hk, hg, rfl, NX, BX⟩ := hrel
      have BWR : Hid (Below w.heap.size w wr) := BW1.out.trans (BX.out.mono BW1.out.size)
      by_cases hlt : k < cyc.length
      · have hlti : (k : Int) < cyc.length := by omega
        have hk0 : (0 : Int) ≤ k := by omega
        have HR2 := RowsIn.keep HC.out (by omega) (fun _ _ h => h) (keeps_below BWR.out) (fun _ _ h => h)
        obtain ⟨ao2, c2, e2, _, hrc⟩ := Tx.RowsIn.cells HR2 (by omega)
        obtain ⟨b, off, cs, hab, hbl, hlen, hrow, hcs⟩ := hrc k hlt
        simp only [Value.slice.injEq, true_and] at e2
        obtain ⟨e2, e3⟩ := e2
        subst hab
        subst e2
        subst e3
        obtain ⟨⟨y0, y1, y2, y3, y4, y5, y6, y7⟩, hx⟩ : ∃ x, cyc.getD k default = x := ⟨_, rfl⟩
        rw [hx] at hrow
        subst hrow
        have HX := hid hx
        have hs3 : y3.size ≤ 9223372036854775806 := by have h1 := HSM.out.2 (cyc.getD k default) (by rw [List.getD, List.getElem?_eq_getElem hlt]; exact List.getElem_mem _); rw [hx] at h1; have h2 : y3.size ≤ 20000 := h1; omega
        clear hx HR2 hrc
        have k0 : wr.cell? ⟨b, off + k * 8, none⟩ = some (.int .i64 y0) := by simpa using hcs 0 (.int .i64 y0) rfl
        have k1 : wr.cell? ⟨b, off + k * 8 + 1, none⟩ = some (.int .i64 y1) := by simpa using hcs 1 (.int .i64 y1) rfl
        have k2 : wr.cell? ⟨b, off + k * 8 + 2, none⟩ = some (.int .i64 y2) := by simpa using hcs 2 (.int .i64 y2) rfl
        have k3 : wr.cell? ⟨b, off + k * 8 + 3, none⟩ = some (.string y3) := by simpa using hcs 3 (.string y3) rfl
        have k4 : wr.cell? ⟨b, off + k * 8 + 4, none⟩ = some (.int .i64 y4) := by simpa using hcs 4 (.int .i64 y4) rfl
        have k5 : wr.cell? ⟨b, off + k * 8 + 5, none⟩ = some (.int .i64 y5) := by simpa using hcs 5 (.int .i64 y5) rfl
        have k6 : wr.cell? ⟨b, off + k * 8 + 6, none⟩ = some (.bool y6) := by simpa using hcs 6 (.bool y6) rfl
        have k7 : wr.cell? ⟨b, off + k * 8 + 7, none⟩ = some (.bool y7) := by simpa using hcs 7 (.bool y7) rfl
        clear hcs hlen
        obtain ⟨W2, hW2⟩ : ∃ W2, wr.alloc (.cells #[.int .i64 y0, .int .i64 y1, .int .i64 y2, .string y3, .int .i64 y4, .int .i64 y5, .bool y6, .bool y7] 108) = W2 := ⟨_, rfl⟩
        obtain ⟨oy, hoy⟩ : ∃ oy, wr.heap.size = oy := ⟨_, rfl⟩
        have B2 := below_box wr (.cells #[.int .i64 y0, .int .i64 y1, .int .i64 y2, .string y3, .int .i64 y4, .int .i64 y5, .bool y6, .bool y7] 108)
        rw [hW2] at B2
        have XY : BoxW W2 oy 108 #[.int .i64 y0, .int .i64 y1, .int .i64 y2, .string y3, .int .i64 y4, .int .i64 y5, .bool y6, .bool y7] := by rw [← hW2, ← hoy]; exact box_new _ _ _
        have n2 : W2.cell? ⟨oy, 2, none⟩ = some (.int .i64 y2) := XY.cell 2
        have n3 : W2.cell? ⟨oy, 3, none⟩ = some (.string y3) := XY.cell 3
        have BB := hid (BX.out.trans (B2.mono BX.out.size))
        have LB := hid (dlabel_is y2 W2)
        have KY := hid (dKeyN_is y3 W2 hs3)
        obtain ⟨lb, hlb⟩ : ∃ lb, wordN labelWs y2 = lb := ⟨_, rfl⟩
        rw [hlb] at LB
        have EW : Hid (wrongD (cyc.getD k default) = (lb.toList.isEmpty || !keyN y3)) := by show _ = _; rw [HX.out]; show ((wordN labelWs y2).toList == (⟨#[]⟩ : ByteArray).toList || !keyN y3) = _; rw [hlb, list_nil]
        clear hlb B2 XY hs3
        cases he : lb.toList.isEmpty with
        | true =>
          have hne : lb.toList = [] := by simpa using he
          have HT : Hid (wrongD (cyc.getD k default) = true) := by show _ = _; rw [EW.out, he]; rfl
          have EA : Hid (cyc.any wrongD = true) := any_at hlt HT.out
          clear EW HT
          go_wp2_with (go_at_call 86; refine LB.out.mono ?_; rintro e w3 ⟨rfl, rfl⟩)
          go_ret
          exact ⟨by rw [HR.out, EA.out]; rfl, BW1.out.trans (BB.out.mono BW1.out.size)⟩
        | false =>
          have hne : ¬ lb.toList = [] := by intro c; rw [c] at he; cases he
          have hneb : (lb.toList == []) = false := by simpa using hne
          cases hky : keyN y3 with
          | false =>
            rw [hky] at KY
            have HT : Hid (wrongD (cyc.getD k default) = true) := by show _ = _; rw [EW.out, hky]; simp
            have EA : Hid (cyc.any wrongD = true) := any_at hlt HT.out
            clear EW HT hky
            go_wp2_with (first | (go_at_call 86; refine LB.out.mono ?_; rintro e w3 ⟨rfl, rfl⟩) | (go_at_call 108; refine KY.out.mono ?_; rintro e w3 ⟨rfl, rfl⟩))
            go_ret
            exact ⟨by rw [HR.out, EA.out]; rfl, BW1.out.trans (BB.out.mono BW1.out.size)⟩
          | true =>
            rw [hky] at KY
            have EX : Hid (∀ j, j < k + 1 → wrongD (cyc.getD j default) = false) := fun j hj => by
              by_cases e : j = k
              · subst e
                rw [EW.out, he, hky]; rfl
              · exact NX.out j (by omega)
            clear EW hky NX
            go_wp2_with (first | (go_at_call 86; refine LB.out.mono ?_; rintro e w3 ⟨rfl, rfl⟩) | (go_at_call 108; refine KY.out.mono ?_; rintro e w3 ⟨rfl, rfl⟩))
            go_roundg (cyc.length - (k + 1))
            case measure => omega
            case rel => exact ⟨k + 1, by omega, by omega, by go_num, EX.out, BB.out⟩
      · have hlti : ¬ (k : Int) < cyc.length := by omega
        have EA : Hid (cyc.any wrongD = false) := any_none (fun j hj => NX.out j (by omega))
        clear NX
        go_wp2_with fail
        go_ret
        exact ⟨by rw [HR.out, EA.out]; rfl, BWR.out⟩
end Go.Proofs.YtkpomcimaofkkaaGreatDoor.Rp
