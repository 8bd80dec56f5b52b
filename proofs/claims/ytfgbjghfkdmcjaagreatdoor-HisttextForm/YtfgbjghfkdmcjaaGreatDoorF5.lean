/-
  What a key is: the plain part; walks of the code's isKey and of the reference's IsWord and IsKey.
  Plain data of histories, when two are the same, and how they lie in memory.
  A history's text, read: the document's reader, plain (what is left of the tokens, and the first fault).
  The code's reader of a history's text, plain, and that it answers as the document's.
  The code's reader of a history's text answers as the document's: operations, events, the whole.
-/
import Derived.Test.YtfgbjghfkdmcjaaGreatDoorF3
import Derived.Test.YtfgbjghfkdmcjaaGreatDoorF4
import Derived.Deep.RegionHeld3
import Derived.Lib.ConvBytes
import Derived.Test.YtfgbjghfkdmcjaaGreatDoorF1
import Derived.Test.YtfgbjghfkdmcjaaGreatDoorF2
import Derived.Deep.LoopGhost
import Derived.Deep.Draws
namespace Go.Proofs.YtfgbjghfkdmcjaaGreatDoor
set_option linter.unusedVariables false
set_option linter.unusedSimpArgs false
open Go.RowKit

theorem ret_b {b c : Bool} (h : c = b) : Ending.returned (.bool b) = .returned (.bool c) := by rw [h]

/-- A word, by its bytes. -/
def isWordL : List UInt8 → Bool
  | [] => false
  | b :: r => isSm b.toNat && r.all (fun x => isWd x.toNat)
def isWordB (s : ByteArray) : Bool := isWordL s.data.toList
def keyOk (s : ByteArray) : Bool := isWordB s && decide (s.size ≤ 6)

theorem all_bl (s : ByteArray) : s.data.toList = bl s 0 s.size := by
  have := extract_bl s 0 s.size (Nat.le_refl _)
  rwa [extract_all] at this

theorem word_form {s : ByteArray} (h : isWordB s = true) : ∃ b r, s.data.toList = b :: r ∧ isSm b.toNat = true ∧ ∀ x ∈ r, isWd x.toNat = true := by
  unfold isWordB at h
  cases hl : s.data.toList with
  | nil => rw [hl] at h; cases h
  | cons b r =>
    rw [hl] at h
    simp only [isWordL, Bool.and_eq_true, List.all_eq_true] at h
    exact ⟨b, r, rfl, h.1, h.2⟩
theorem word_of {s : ByteArray} {b : UInt8} {r : List UInt8} (h : s.data.toList = b :: r) (hb : isSm b.toNat = true) (hr : ∀ x ∈ r, isWd x.toNat = true) : isWordB s = true := by
  unfold isWordB; rw [h]
  simp only [isWordL, Bool.and_eq_true, List.all_eq_true]
  exact ⟨hb, hr⟩

theorem scan_word {s : ByteArray} (h : isWordB s = true) (hs : s.size ≤ 20000) : scanM s = .ok [((1 : Int), (0 : Int), s, (0 : Int))] := by
  obtain ⟨b, r, hl, hb, hr⟩ := word_form h
  have ht : TokOk ((1 : Int), (0 : Int), s, (0 : Int)) := .inl ⟨rfl, rfl, b, r, hl, hb, hr⟩
  obtain ⟨hne, h32, htok⟩ := tok_again (s := s) (i := 0) (r := []) ht (by rw [List.drop_zero]; simp) (.inr (.inr (.inl rfl)))
  have hsz : (tx ((1 : Int), (0 : Int), s, (0 : Int))).length = s.size := by show s.data.toList.length = _; simp
  have hpos : 0 < s.size := by rw [← hsz]; exact List.length_pos_iff.2 hne
  rw [hsz, Nat.zero_add] at htok
  rw [scanM_left hs, left_tok [] hpos h32 htok, left_end _ (by omega)]
  rfl

/-- A key, by what its text is scanned as. -/
theorem key_scanned {s : ByteArray} {l : List MTok} (h6 : s.size ≤ 6) (h : scanM s = .ok l) : keyOk s = (decide (l.length = 1) && ((l.getD 0 default).1 == 1 && ((l.getD 0 default).2.2.1.toList == s.toList))) := by
  have e6 : decide (s.size ≤ 6) = true := by simpa using h6
  unfold keyOk
  rw [e6, Bool.and_true]
  cases hw : isWordB s with
  | true =>
    have := scan_word hw (by omega)
    rw [h] at this
    cases this
    simp
  | false =>
    symm
    rw [Bool.eq_false_iff]
    intro hc
    simp only [Bool.and_eq_true, decide_eq_true_eq, beq_iff_eq] at hc
    obtain ⟨h1, h2, h3⟩ := hc
    match l, h1 with
    | [t], _ =>
      have hok := scanM_form h t (by simp)
      simp only [List.getD_cons_zero] at h2 h3
      rcases hok with ⟨_, _, b, r, e, hb, hr⟩ | ⟨e, _⟩ | ⟨e, _⟩ | ⟨e, _⟩
      · have hs : s.data.toList = b :: r := by
          rw [ByteArray.toList_eq, ByteArray.toList_eq] at h3
          rw [← h3]; exact e
        rw [word_of hs hb hr] at hw
        cases hw
      · omega
      · omega
      · omega
theorem key_bad {s : ByteArray} {q : Nat × Nat} (h6 : s.size ≤ 6) (h : scanM s = .error q) : keyOk s = false := by
  unfold keyOk
  cases hw : isWordB s with
  | false => rfl
  | true => rw [scan_word hw (by omega)] at h; cases h
theorem key_long {s : ByteArray} (h6 : 6 < s.size) : keyOk s = false := by
  unfold keyOk
  have : decide (s.size ≤ 6) = false := by simpa using h6
  rw [this, Bool.and_false]

theorem ToksIn.later {S T : Nat → Prop} {w w' : World} {v : Value} {l : List MTok} (h : ToksIn S w v l) (hb : Below w.heap.size w w') (hT : ∀ b, b < w.heap.size → S b → T b) : ToksIn T w' v l :=
  RowsIn.keep h (by omega) (fun _ _ hr => hr) (keeps_below hb) hT

theorem bl_zero {s : ByteArray} (h : 0 < s.size) : ∃ n, s.size = n + 1 ∧ s.data.toList = UInt8.ofNat (bt s 0) :: bl s 1 n := by
  obtain ⟨n, hn⟩ : ∃ n, s.size = n + 1 := ⟨s.size - 1, by omega⟩
  refine ⟨n, hn, ?_⟩
  rw [all_bl, hn]; rfl
theorem wordB_none {s : ByteArray} (h : ¬ 0 < s.size) : isWordB s = false := by
  unfold isWordB
  have : s.data.toList = [] := List.length_eq_zero_iff.1 (by rw [Array.length_toList]; show s.size = 0; omega)
  rw [this]; rfl
theorem wordB_first {s : ByteArray} (h : 0 < s.size) (h0 : isSm (bt s 0) = false) : isWordB s = false := by
  obtain ⟨n, _, e⟩ := bl_zero h
  unfold isWordB; rw [e]
  show (isSm (UInt8.ofNat (bt s 0)).toNat && _) = false
  rw [toNat_bt, h0]; rfl
theorem wordB_miss {s : ByteArray} {j : Nat} (h : j < s.size) (h0 : isWd (bt s j) = false) : isWordB s = false := by
  cases hw : isWordB s with
  | false => rfl
  | true =>
    obtain ⟨b, r, e, hb, hr⟩ := word_form hw
    have hj : s.data.toList[j]? = some (s.data.toList[j]'(by simpa using h)) := List.getElem?_eq_getElem _
    have hbt := bt_list hj
    have hm : s.data.toList[j]'(by simpa using h) ∈ b :: r := by rw [← e]; exact List.getElem_mem _
    rw [hbt] at h0
    rcases List.mem_cons.1 hm with e1 | e1
    · rw [e1] at h0; simp [isWd, hb] at h0
    · rw [hr _ e1] at h0; cases h0
theorem wordB_all {s : ByteArray} (h : 0 < s.size) (h0 : isSm (bt s 0) = true) (ha : ∀ j, j < s.size → isWd (bt s j) = true) : isWordB s = true := by
  obtain ⟨n, hn, e⟩ := bl_zero h
  refine word_of e (by rw [toNat_bt]; exact h0) (fun x hx => ?_)
  obtain ⟨j, hj, ex⟩ := mem_bl hx
  rw [ex]; exact ha _ (by omega)

set_option maxHeartbeats 1000000 in
set_option maxRecDepth 100000 in
/-- The reference's IsWord. -/
theorem isWord_any (s : ByteArray) (w : World) (hs : s.size ≤ 9223372036854775806) :
    Calls Tryz.prog 80 #[.string s] w fun e w' => e = .returned (.bool (isWordB s)) ∧ w' = w := by
  by_cases h0 : 0 < s.size
  · have hne : (s.toList == []) = false := by
      rw [ByteArray.toList_eq]
      cases h : s.data.toList with
      | nil =>
        have h1 : s.data.toList.length = 0 := by rw [h]; rfl
        rw [Array.length_toList] at h1
        have e : s.data.size = s.size := rfl
        omega
      | cons _ _ => rfl
    have hne2 : ¬ s.toList = [] := by intro h; rw [h] at hne; cases hne
    have hne3 : s.toList.isEmpty = false := by simpa using hne2
    have h0i : (0 : Int) < (s.size : Int) := by omega
    have HB0 := hid (bt_get h0)
    cases q0 : isSm (s[0]'h0).toNat with
    | false =>
      have HK := hid (wordB_first h0 (by rw [← HB0.out]; exact q0))
      go_enter Tryz.func80, Tryz.ntmps80
      go_wp2_with (go_at_call 60; refine (lt_c _ _).mono ?_; rintro e w' ⟨rfl, rfl⟩)
      go_ret
      exact ⟨ret_b HK.out, rfl⟩
    | true =>
      have HK0 : Hid (isSm (bt s 0) = true) := by show isSm (bt s 0) = true; rw [← HB0.out]; exact q0
      go_enter Tryz.func80, Tryz.ntmps80
      go_wp2_with (go_at_call 60; refine (lt_c _ _).mono ?_; rintro e w' ⟨rfl, rfl⟩)
      go_loopg [3] s.size (fun g t wr => ∃ k : Nat, k ≤ s.size ∧ s.size - k ≤ g ∧ t = .int .i64 k ∧ wr = w ∧ Aside (∀ j, j < k → isWd (bt s j) = true))
      case atStart => exact ⟨0, Nat.zero_le _, by omega, rfl, rfl, fun j h => by omega⟩
      case round =>
        obtain ⟨k, hk, hg, rfl, rfl, A⟩ := hrel
        by_cases hlt : k < s.size
        · have hlti : (k : Int) < (s.size : Int) := by omega
          have HB := hid (bt_get hlt)
          cases q1 : isSm (s[k]'hlt).toNat with
          | true =>
            go_wp2_with (go_at_call 60; refine (lt_c _ _).mono ?_; rintro e w' ⟨rfl, rfl⟩)
            go_roundg (s.size - (k + 1))
            case measure => omega
            case rel =>
              refine ⟨k + 1, by omega, by omega, by go_num, rfl, (show Aside _ from fun j h2 => ?_)⟩
              by_cases e : j = k
              · subst e; rw [← HB.out]; simp [isWd, q1]
              · exact A.out j (by omega)
          | false =>
            cases q2 : isDg (s[k]'hlt).toNat with
            | true =>
              go_wp2_with (first | (go_at_call 60; refine (lt_c _ _).mono ?_; rintro e w' ⟨rfl, rfl⟩) | (go_at_call 62; refine (dg_c _ _).mono ?_; rintro e w' ⟨rfl, rfl⟩))
              go_roundg (s.size - (k + 1))
              case measure => omega
              case rel =>
                refine ⟨k + 1, by omega, by omega, by go_num, rfl, (show Aside _ from fun j h2 => ?_)⟩
                by_cases e : j = k
                · subst e; rw [← HB.out]; simp [isWd, q1, q2]
                · exact A.out j (by omega)
            | false =>
              have HK := hid (wordB_miss hlt (by rw [← HB.out]; simp [isWd, q1, q2]))
              go_wp2_with (first | (go_at_call 60; refine (lt_c _ _).mono ?_; rintro e w' ⟨rfl, rfl⟩) | (go_at_call 62; refine (dg_c _ _).mono ?_; rintro e w' ⟨rfl, rfl⟩))
              go_ret
              exact ⟨ret_b HK.out, rfl⟩
        · have hlti : ¬ (k : Int) < (s.size : Int) := by omega
          have HK := hid (wordB_all h0 HK0.out (fun j hj => A.out j (by omega)))
          go_wp2_with fail
          go_ret
          exact ⟨ret_b HK.out, rfl⟩
  · have HK := hid (wordB_none h0)
    have hz : s.toList = [] := by rw [ByteArray.toList_eq]; exact List.length_eq_zero_iff.1 (by rw [Array.length_toList]; show s.size = 0; omega)
    have he : s.toList.isEmpty = true := by rw [hz]; rfl
    go_enter Tryz.func80, Tryz.ntmps80
    go_wp2_with fail
    go_ret
    exact ⟨ret_b HK.out, rfl⟩

/-- The reference's IsKey. -/
theorem refKey_any (s : ByteArray) (w : World) (hs : s.size ≤ 9223372036854775806) :
    Calls Tryz.prog 69 #[.string s] w fun e w' => e = .returned (.bool (keyOk s)) ∧ w' = w := by
  have H := hid (isWord_any s w hs)
  unfold keyOk
  cases hw : isWordB s with
  | false =>
    rw [hw] at H
    go_enter Tryz.func69, Tryz.ntmps69
    go_wp2_with fail
    refine H.out.mono ?_
    rintro e w1 ⟨rfl, rfl⟩
    go_wp2_with fail
    go_ret
    exact ⟨rfl, rfl⟩
  | true =>
    rw [hw] at H
    by_cases h6 : s.size ≤ 6
    · have h6i : (s.size : Int) ≤ 6 := by omega
      have e6 : decide (s.size ≤ 6) = true := by simpa using h6
      go_enter Tryz.func69, Tryz.ntmps69
      go_wp2_with fail
      refine H.out.mono ?_
      rintro e w1 ⟨rfl, rfl⟩
      go_wp2_with fail
      go_ret
      exact ⟨ret_b (by rw [e6]; rfl), rfl⟩
    · have h6i : ¬ (s.size : Int) ≤ 6 := by omega
      have e6 : decide (s.size ≤ 6) = false := by simpa using h6
      go_enter Tryz.func69, Tryz.ntmps69
      go_wp2_with fail
      refine H.out.mono ?_
      rintro e w1 ⟨rfl, rfl⟩
      go_wp2_with fail
      go_ret
      exact ⟨ret_b (by rw [e6]; symm; simpa using h6i), rfl⟩
theorem kSmall_any (c : Nat) (w : World) : Calls Tryz.prog 87 #[.int .u8 c] w fun e w' => e = .returned (.bool (isSm c)) ∧ w = w' := by
  by_cases h1 : (97 : Int) ≤ (c : Int)
  · by_cases h2 : (c : Int) ≤ 122
    · have r := hid (show isSm c = true from isSm_iff.2 (by omega))
      go_enter Tryz.func87, Tryz.ntmps87
      go_wp2
      go_ret
      exact ⟨by rw [r.out]; rfl, rfl⟩
    · have r : isSm c = false := isSm_no.2 (by omega)
      go_enter Tryz.func87, Tryz.ntmps87
      go_wp2
      go_ret
      exact ⟨rfl, rfl⟩
  · have r : isSm c = false := isSm_no.2 (by omega)
    go_enter Tryz.func87, Tryz.ntmps87
    go_wp2
    go_ret
    exact ⟨rfl, rfl⟩
theorem kDigit_any (c : Nat) (w : World) : Calls Tryz.prog 86 #[.int .u8 c] w fun e w' => e = .returned (.bool (isDg c)) ∧ w = w' := by
  by_cases h1 : (48 : Int) ≤ (c : Int)
  · by_cases h2 : (c : Int) ≤ 57
    · have r := hid (show isDg c = true from isDg_iff.2 (by omega))
      go_enter Tryz.func86, Tryz.ntmps86
      go_wp2
      go_ret
      exact ⟨by rw [r.out]; rfl, rfl⟩
    · have r : isDg c = false := isDg_no.2 (by omega)
      go_enter Tryz.func86, Tryz.ntmps86
      go_wp2
      go_ret
      exact ⟨rfl, rfl⟩
  · have r : isDg c = false := isDg_no.2 (by omega)
    go_enter Tryz.func86, Tryz.ntmps86
    go_wp2
    go_ret
    exact ⟨rfl, rfl⟩
theorem key_word {s : ByteArray} (h : isWordB s = false) : keyOk s = false := by unfold keyOk; rw [h]; rfl
theorem below_bytes (w : World) (e : TypeId) (s : ByteArray) : Below w.heap.size w (Lib.bytesWorld w e s) :=
  ⟨rfl, rfl, rfl, by rw [Lib.bytesWorld_size]; omega, fun b hb => Lib.bytesWorld_at_old w e s b hb⟩

set_option maxHeartbeats 2000000 in
set_option maxRecDepth 100000 in
/-- The code's keys.Is. -/
theorem isKey_all (s : ByteArray) (w : World) :
    Calls Tryz.prog 76 #[.string s] w fun e w' => e = .returned (.bool (keyOk s)) ∧ Below w.heap.size w w' := by
  by_cases h0 : 0 < s.size
  · have hne : (s.toList == []) = false := by
      rw [ByteArray.toList_eq]
      cases h : s.data.toList with
      | nil =>
        have h1 : s.data.toList.length = 0 := by rw [h]; rfl
        rw [Array.length_toList] at h1
        have e : s.data.size = s.size := rfl
        omega
      | cons _ _ => rfl
    have hne2 : ¬ s.toList = [] := by intro h; rw [h] at hne; cases hne
    have hne3 : s.toList.isEmpty = false := by simpa using hne2
    have h0i : (0 : Int) < (s.size : Int) := by omega
    by_cases h6 : 6 < s.size
    · have h6i : (6 : Int) < (s.size : Int) := by omega
      have HK := hid (key_long h6)
      go_enter Tryz.func76, Tryz.ntmps76
      go_wp2_with fail
      go_ret
      exact ⟨ret_b HK.out, Below.refl _ _⟩
    · have h6i : ¬ (6 : Int) < (s.size : Int) := by omega
      have HB0 := hid (bt_get h0)
      cases q0 : isDg (s[0]'h0).toNat with
      | true =>
        have HK := hid (key_word (wordB_first h0 (by rw [← HB0.out]; rw [isDg_iff] at q0; exact isSm_no.2 (by omega))))
        go_enter Tryz.func76, Tryz.ntmps76
        go_wp2_with (go_at_call 86; refine (kDigit_any _ _).mono ?_; rintro e w' ⟨rfl, rfl⟩)
        go_ret
        exact ⟨ret_b HK.out, Below.refl _ _⟩
      | false =>
        have hcv := Lib.run_convert_string_bytes w 9 91 5 s Tryz.underlying9 Tryz.underlying91 Tryz.underlying5
        generalize grownCap w s.size 0 5 = gc at hcv
        have HD0 : Hid (isDg (bt s 0) = false) := by show isDg (bt s 0) = false; rw [← HB0.out]; exact q0
        have HCB : Hid (∀ k (hk : k < s.size), (Lib.bytesWorld w 5 s).cell? ⟨w.heap.size, k, none⟩ = some (.int .u8 (((s[k]'hk).toNat : Nat) : Int))) := fun k hk => by
          rw [Lib.bytesWorld_cell w 5 s k hk]
          have e : s.data.toList.getD k 0 = s[k]'hk := by
            simp [List.getD, hk]
            rfl
          rw [e]
        have HBB := hid (below_bytes w 5 s)
        generalize Lib.bytesWorld w 5 s = wb at *
        go_enter Tryz.func76, Tryz.ntmps76
        go_wp2_with (go_at_call 86; refine (kDigit_any _ _).mono ?_; rintro e w' ⟨rfl, rfl⟩)
        go_loopg [4, 20] s.size (fun g _ t wr => ∃ k : Nat, k ≤ s.size ∧ s.size - k ≤ g ∧ t = .int .i64 k ∧ wr = wb ∧ Aside (∀ j, j < k → isWd (bt s j) = true))
        case atStart => exact ⟨0, Nat.zero_le _, by omega, rfl, rfl, fun j h => by omega⟩
        case round =>
          obtain ⟨k, hk, hg, rfl, rfl, A⟩ := hrel
          by_cases hlt : k < s.size
          · have hlti : (k : Int) < (s.size : Int) := by omega
            have hcell := HCB.out k hlt
            have HB := hid (bt_get hlt)
            cases q1 : isSm (s[k]'hlt).toNat with
            | true =>
              go_wp2_with (go_at_call 87; refine (kSmall_any _ _).mono ?_; rintro e w' ⟨rfl, rfl⟩)
              go_roundg (s.size - (k + 1))
              case measure => omega
              case rel =>
                refine ⟨k + 1, by omega, by omega, by go_num, rfl, (show Aside _ from fun j h2 => ?_)⟩
                by_cases e : j = k
                · subst e; rw [← HB.out]; simp [isWd, q1]
                · exact A.out j (by omega)
            | false =>
              cases q2 : isDg (s[k]'hlt).toNat with
              | true =>
                go_wp2_with (first | (go_at_call 87; refine (kSmall_any _ _).mono ?_; rintro e w' ⟨rfl, rfl⟩) | (go_at_call 86; refine (kDigit_any _ _).mono ?_; rintro e w' ⟨rfl, rfl⟩))
                go_roundg (s.size - (k + 1))
                case measure => omega
                case rel =>
                  refine ⟨k + 1, by omega, by omega, by go_num, rfl, (show Aside _ from fun j h2 => ?_)⟩
                  by_cases e : j = k
                  · subst e; rw [← HB.out]; simp [isWd, q1, q2]
                  · exact A.out j (by omega)
              | false =>
                have HK := hid (key_word (wordB_miss hlt (by rw [← HB.out]; simp [isWd, q1, q2])))
                go_wp2_with (first | (go_at_call 87; refine (kSmall_any _ _).mono ?_; rintro e w' ⟨rfl, rfl⟩) | (go_at_call 86; refine (kDigit_any _ _).mono ?_; rintro e w' ⟨rfl, rfl⟩))
                go_ret
                exact ⟨ret_b HK.out, HBB.out⟩
          · have hnlt : ¬ (k : Int) < (s.size : Int) := by omega
            have HK : Hid (keyOk s = true) := by
              have h1 : isWordB s = true := wordB_all h0 (by
                have := A.out 0 (by omega)
                unfold isWd at this
                rw [HD0.out, Bool.or_false] at this
                exact this) (fun j hj => A.out j (by omega))
              show keyOk s = true
              unfold keyOk
              rw [h1, decide_eq_true (show s.size ≤ 6 by omega)]
              rfl
            go_wp2_with fail
            go_ret
            exact ⟨ret_b HK.out, HBB.out⟩
  · have HK := hid (key_word (wordB_none h0))
    have hz : s.toList = [] := by rw [ByteArray.toList_eq]; exact List.length_eq_zero_iff.1 (by rw [Array.length_toList]; show s.size = 0; omega)
    have he : s.toList.isEmpty = true := by rw [hz]; rfl
    have hzz : (s.toList == []) = true := by rw [hz]; rfl
    go_enter Tryz.func76, Tryz.ntmps76
    go_wp2_with fail
    go_ret
    exact ⟨ret_b HK.out, Below.refl _ _⟩


theorem isKey_any (s : ByteArray) (w : World) (te : TypeId) (pe : Value) (hv : w.cell? ⟨0, 0, none⟩ = some pe) :
    Calls Tryz.prog 76 #[.string s] w fun e w' => e = .returned (.bool (keyOk s)) ∧ Below w.heap.size w w' := isKey_all s w
end Go.Proofs.YtfgbjghfkdmcjaaGreatDoor
namespace Go.Proofs.YtfgbjghfkdmcjaaGreatDoor
set_option linter.unusedVariables false
set_option linter.unusedSimpArgs false
open Go.RowKit


/-- An operation, plain: its kind, key, value, list, and whether it has one, whether that is nil. -/
abbrev MOp := Int × ByteArray × Int × List Int × Bool × Bool
abbrev MOp.kind (o : MOp) : Int := o.1
abbrev MOp.key (o : MOp) : ByteArray := o.2.1
abbrev MOp.value (o : MOp) : Int := o.2.2.1
abbrev MOp.list (o : MOp) : List Int := o.2.2.2.1
abbrev MOp.has (o : MOp) : Bool := o.2.2.2.2.1
abbrev MOp.nl (o : MOp) : Bool := o.2.2.2.2.2

/-- An event, plain: its kind, process and operations. -/
abbrev MEv := Int × Int × List MOp
abbrev MEv.kind (e : MEv) : Int := e.1
abbrev MEv.proc (e : MEv) : Int := e.2.1
abbrev MEv.ops (e : MEv) : List MOp := e.2.2

def intsEq (xs ys : List Int) : Bool := allEq (fun x y => x == y) xs ys
def opEq (x y : MOp) : Bool := x.kind == y.kind && (x.key.toList == y.key.toList && (x.value == y.value && (x.has == y.has && (x.nl == y.nl && intsEq x.list y.list))))
def opsEq (xs ys : List MOp) : Bool := allEq opEq xs ys
def evEq (x y : MEv) : Bool := x.kind == y.kind && (x.proc == y.proc && opsEq x.ops y.ops)
def evsEq (xs ys : List MEv) : Bool := allEq evEq xs ys

theorem intsEq_refl (xs : List Int) : intsEq xs xs = true := allEq_refl _ (by simp) xs
theorem intsEq_symm (xs ys : List Int) : intsEq xs ys = intsEq ys xs := allEq_symm _ (fun x y => by rw [Bool.eq_iff_iff, beq_iff_eq, beq_iff_eq]; exact eq_comm) xs ys
theorem opEq_refl (x : MOp) : opEq x x = true := by simp [opEq, intsEq_refl]
theorem beq_sw {α : Type} [BEq α] [LawfulBEq α] (a b : α) : (a == b) = (b == a) := by rw [Bool.eq_iff_iff, beq_iff_eq, beq_iff_eq]; exact eq_comm
theorem opEq_symm (x y : MOp) : opEq x y = opEq y x := by
  unfold opEq; rw [beq_sw x.kind, beq_sw x.key.toList, beq_sw x.value, beq_sw x.has, beq_sw x.nl, intsEq_symm]
theorem evEq_refl (x : MEv) : evEq x x = true := by simp [evEq, opsEq, allEq_refl _ opEq_refl]
theorem evEq_symm (x y : MEv) : evEq x y = evEq y x := by
  unfold evEq opsEq; rw [beq_sw x.kind, beq_sw x.proc, allEq_symm _ opEq_symm]

/-- A slice of ints in memory, all of it in blocks of S. -/
def IntsIn (S : Nat → Prop) (w : World) (v : Value) (l : List Int) : Prop :=
  ∃ ao c, v = .slice ao l.length c ∧ l.length * 8 ≤ 140737488355328 ∧ (0 < l.length → ∃ b off, ao = some ⟨b, off, none⟩ ∧ S b ∧ ∀ j, j < l.length → w.cell? ⟨b, off + j, none⟩ = some (.int .i64 (l.getD j default)))

/-- The six cells of an operation. -/
def OpRow (S : Nat → Prop) (w : World) (cs : List Value) (o : MOp) : Prop :=
  ∃ lv, cs = [.int .i64 o.kind, .string o.key, .int .i64 o.value, lv, .bool o.has, .bool o.nl] ∧ IntsIn S w lv o.list

def OpsIn (S : Nat → Prop) (w : World) (v : Value) (l : List MOp) : Prop := RowsIn 6 64 (OpRow S w) S w v l
def EvRow (S : Nat → Prop) (w : World) (cs : List Value) (e : MEv) : Prop :=
  ∃ ov, cs = [.int .i64 e.kind, .int .i64 e.proc, ov] ∧ OpsIn S w ov e.ops
def EvsIn (S : Nat → Prop) (w : World) (v : Value) (l : List MEv) : Prop := RowsIn 3 40 (EvRow S w) S w v l

theorem IntsIn.keep {S T : Nat → Prop} {w w' : World} {v : Value} {l : List Int} (h : IntsIn S w v l) (hk : KeepsIn S w w') (hT : ∀ b, b < w.heap.size → S b → T b) : IntsIn T w' v l := by
  obtain ⟨ao, c, hv, hl, hc⟩ := h
  refine ⟨ao, c, hv, hl, fun h0 => ?_⟩
  obtain ⟨b, off, ha, hS, hj⟩ := hc h0
  exact ⟨b, off, ha, hT b (World.block_lt_of_cell? _ _ (hj 0 h0)) hS, fun j h => hk.cell (p := ⟨b, off + j, none⟩) hS (hj j h)⟩

theorem OpRow.keep {S T : Nat → Prop} {w w' : World} {cs : List Value} {o : MOp} (h : OpRow S w cs o) (hk : KeepsIn S w w') (hT : ∀ b, b < w.heap.size → S b → T b) : OpRow T w' cs o := by
  obtain ⟨lv, hcs, hl⟩ := h
  exact ⟨lv, hcs, hl.keep hk hT⟩

theorem OpsIn.keep {S T : Nat → Prop} {w w' : World} {v : Value} {l : List MOp} (h : OpsIn S w v l) (hk : KeepsIn S w w') (hT : ∀ b, b < w.heap.size → S b → T b) : OpsIn T w' v l :=
  RowsIn.keep h (by omega) (fun _ _ hr => OpRow.keep hr hk hT) hk hT

theorem EvRow.keep {S T : Nat → Prop} {w w' : World} {cs : List Value} {o : MEv} (h : EvRow S w cs o) (hk : KeepsIn S w w') (hT : ∀ b, b < w.heap.size → S b → T b) : EvRow T w' cs o := by
  obtain ⟨lv, hcs, hl⟩ := h
  exact ⟨lv, hcs, hl.keep hk hT⟩

theorem EvsIn.keep {S T : Nat → Prop} {w w' : World} {v : Value} {l : List MEv} (h : EvsIn S w v l) (hk : KeepsIn S w w') (hT : ∀ b, b < w.heap.size → S b → T b) : EvsIn T w' v l :=
  RowsIn.keep h (by omega) (fun _ _ hr => EvRow.keep hr hk hT) hk hT

theorem IntsIn.below {w w' : World} {v : Value} {l : List Int} (h : IntsIn Any w v l) (hb : Below w.heap.size w w') : IntsIn Any w' v l := h.keep (keeps_below hb) (fun _ _ _ => trivial)
theorem OpsIn.below {w w' : World} {v : Value} {l : List MOp} (h : OpsIn Any w v l) (hb : Below w.heap.size w w') : OpsIn Any w' v l := h.keep (keeps_below hb) (fun _ _ _ => trivial)
theorem EvsIn.below {w w' : World} {v : Value} {l : List MEv} (h : EvsIn Any w v l) (hb : Below w.heap.size w w') : EvsIn Any w' v l := h.keep (keeps_below hb) (fun _ _ _ => trivial)

end Go.Proofs.YtfgbjghfkdmcjaaGreatDoor
namespace Go.Proofs.YtfgbjghfkdmcjaaGreatDoor
set_option linter.unusedVariables false
set_option linter.unusedSimpArgs false
open Go.RowKit

/-- Tokens that are left, and the first fault: its place and number. -/
abbrev Rd := List MTok × Option (Int × Int)
def nextAt (en : Int) : List MTok → Int
  | [] => en
  | t :: _ => t.2.1
def rFail (en why : Int) (r : Rd) : Rd := match r.2 with
  | some _ => r
  | none => (r.1, some (nextAt en r.1, why))
def tokIs (t : MTok) (kind : Int) (text : ByteArray) : Bool := t.1 == kind && (text.toList.isEmpty || t.2.2.1.toList == text.toList)
def rIs (r : Rd) (kind : Int) (text : ByteArray) : Bool := match r with
  | (t :: _, none) => tokIs t kind text
  | _ => false
abbrev noTok : MTok := (0, 0, ByteArray.empty, 0)
def rWant (en : Int) (r : Rd) (kind : Int) (text : ByteArray) : MTok × Rd := match r with
  | (t :: l, none) => if tokIs t kind text then (t, (l, none)) else (noTok, rFail en 20 r)
  | _ => (noTok, rFail en 20 r)
/-- A key: what is taken, and what is left. -/
def rKey (en : Int) (r : Rd) : ByteArray × Rd :=
  let r1 := if rIs r 1 ⟨#[]⟩ && decide (6 < (r.1.headD noTok).2.2.1.size) then rFail en 20 r else r
  let p := rWant en r1 1 ⟨#[]⟩
  (p.1.2.2.1, p.2)
/-- One of some words: its place among them, from k + 1 on, and what is left. -/
def rWordFrom (en : Int) (r : Rd) : Nat → List ByteArray → Int × Rd
  | _, [] => (0, rFail en 20 r)
  | k, x :: xs => if rIs r 1 x then ((k : Int) + 1, (rWant en r 1 x).2) else rWordFrom en r (k + 1) xs
abbrev rOpWords : List ByteArray := [⟨#[97, 112, 112, 101, 110, 100]⟩, ⟨#[114, 101, 97, 100]⟩, ⟨#[119, 114, 105, 116, 101]⟩, ⟨#[103, 101, 116]⟩]
abbrev rEvWords : List ByteArray := [⟨#[105, 110, 118, 111, 107, 101]⟩, ⟨#[111, 107]⟩, ⟨#[102, 97, 105, 108]⟩, ⟨#[105, 110, 102, 111]⟩]
/-- The numbers of a list: what is taken behind acc, and what is left; the 41st is a fault. -/
def rList : List MTok → List Int → List Int × Rd
  | [], acc => (acc, ([], none))
  | t :: l, acc => if tokIs t 2 ⟨#[]⟩ then (if acc.length = 40 then (acc ++ [0], (t :: l, some (t.2.1, 4))) else rList l (acc ++ [t.2.2.2])) else (acc, (t :: l, none))
/-- What follows an operation's key. -/
def rMid (en k : Int) (s : ByteArray) (r : Rd) : MOp × Rd :=
  if k = 1 ∨ k = 3 then ((k, s, (rWant en r 2 ⟨#[]⟩).1.2.2.2, [], false, false), (rWant en r 2 ⟨#[]⟩).2)
  else if k = 4 then
    (if rIs r 1 ⟨#[110, 105, 108]⟩ then ((k, s, 0, [], true, true), (rWant en r 1 ⟨#[110, 105, 108]⟩).2)
     else if rIs r 2 ⟨#[]⟩ then ((k, s, (rWant en r 2 ⟨#[]⟩).1.2.2.2, [], true, false), (rWant en r 2 ⟨#[]⟩).2)
     else ((k, s, 0, [], false, false), r))
  else if k = 2 then
    (if rIs r 3 ⟨#[40]⟩ then ((k, s, 0, (rList (rWant en r 3 ⟨#[40]⟩).2.1 []).1, true, false), (rWant en (rList (rWant en r 3 ⟨#[40]⟩).2.1 []).2 3 ⟨#[41]⟩).2)
     else ((k, s, 0, [], false, false), r))
  else ((k, s, 0, [], false, false), r)
/-- An operation: what is taken, and what is left. -/
def rOp (en : Int) (r : Rd) : MOp × Rd :=
  let r1 := (rWant en r 3 ⟨#[91]⟩).2
  let p2 := rWordFrom en r1 0 rOpWords
  let p3 := rKey en p2.2
  let p4 := rMid en p2.1 p3.1 p3.2
  (p4.1, (rWant en p4.2 3 ⟨#[93]⟩).2)
/-- A process. -/
def rProc (en : Int) (r : Rd) : Int × Rd :=
  let r1 := if rIs r 2 ⟨#[]⟩ && (decide ((r.1.headD noTok).2.2.2 < 0) || decide (99 < (r.1.headD noTok).2.2.2)) then rFail en 20 r else r
  let p := rWant en r1 2 ⟨#[]⟩
  (p.1.2.2.2, p.2)
/-- The operations behind the first; the ninth is a fault. -/
def rOps (en : Int) : Nat → Rd → List MOp → List MOp × Rd
  | 0, r, acc => (acc, r)
  | f + 1, r, acc => if rIs r 3 ⟨#[91]⟩ then
      rOps en f (rOp en (if acc.length = 8 then rFail en 4 r else r)).2 (acc ++ [(rOp en (if acc.length = 8 then rFail en 4 r else r)).1])
    else (acc, r)
/-- An event's end. -/
def rEnd (en : Int) (r : Rd) : Rd := if r.1 = [] then r else (rWant en r 4 ⟨#[]⟩).2
/-- An event. -/
def rEv (en : Int) (r : Rd) : MEv × Rd :=
  let p1 := rWordFrom en r 0 rEvWords
  let p2 := rProc en p1.2
  let p3 := rOp en p2.2
  let p4 := rOps en 10 p3.2 [p3.1]
  ((p1.1, p2.1, p4.1), rEnd en p4.2)
def rSkip : List MTok → List MTok
  | [] => []
  | t :: l => if t.1 = 4 then rSkip l else t :: l
def rNext {α β : Type} (q : α × Rd) (k : α → List MTok → Except (Int × Int) β) : Except (Int × Int) β := match q.2.2 with
  | some e => .error e
  | none => k q.1 q.2.1
/-- A history: the events behind those that there are, or the first fault. -/
def rHist (en : Int) : Nat → List MTok → List MEv → Except (Int × Int) (List MEv)
  | 0, _, out => .ok out
  | f + 1, l, out =>
    if rSkip l = [] then .ok out
    else rNext (rEv en (if out.length = 300 then rFail en 4 (rSkip l, none) else (rSkip l, none))) fun x l' => rHist en f l' (out ++ [x])

/-! What a fault leaves as it is. -/
theorem rFail_st {en why : Int} {l : List MTok} {e : Int × Int} : rFail en why (l, some e) = (l, some e) := rfl
theorem rIs_st {l : List MTok} {e : Int × Int} {k : Int} {x : ByteArray} : rIs (l, some e) k x = false := by cases l <;> rfl
theorem rWant_st {en : Int} {l : List MTok} {e : Int × Int} {k : Int} {x : ByteArray} : rWant en (l, some e) k x = (noTok, (l, some e)) := by cases l <;> rfl
theorem rKey_st {en : Int} {l : List MTok} {e : Int × Int} : rKey en (l, some e) = (ByteArray.empty, (l, some e)) := by
  unfold rKey
  rw [rIs_st]
  simp [rWant_st]
theorem rProc_st {en : Int} {l : List MTok} {e : Int × Int} : rProc en (l, some e) = (0, (l, some e)) := by
  unfold rProc
  rw [rIs_st]
  simp [rWant_st]
theorem rWord_st {en : Int} {l : List MTok} {e : Int × Int} : ∀ (ws : List ByteArray) (k : Nat), rWordFrom en (l, some e) k ws = (0, (l, some e))
  | [], k => rfl
  | x :: xs, k => by
    unfold rWordFrom
    rw [rIs_st]
    exact rWord_st xs (k + 1)
theorem rMid_st {en k : Int} {s : ByteArray} {l : List MTok} {e : Int × Int} : (rMid en k s (l, some e)).2 = (l, some e) := by
  unfold rMid
  split
  · simp [rWant_st]
  · split
    · simp [rIs_st]
    · split
      · simp [rIs_st]
      · rfl
theorem rOp_st {en : Int} {l : List MTok} {e : Int × Int} : (rOp en (l, some e)).2 = (l, some e) := by
  unfold rOp
  simp only [rWant_st, rWord_st, rKey_st, rMid_st]
theorem rOps_st {en : Int} {l : List MTok} {e : Int × Int} : ∀ (f : Nat) (acc : List MOp), rOps en f (l, some e) acc = (acc, (l, some e))
  | 0, acc => rfl
  | f + 1, acc => by
    unfold rOps
    rw [rIs_st]
    rfl
theorem rEnd_st {en : Int} {l : List MTok} {e : Int × Int} : rEnd en (l, some e) = (l, some e) := by
  unfold rEnd
  split
  · rfl
  · rw [rWant_st]
theorem rEv_st {en : Int} {l : List MTok} {e : Int × Int} : (rEv en (l, some e)).2 = (l, some e) := by
  unfold rEv
  have h := @rOp_st en l e
  simp only [rWord_st, rProc_st]
  generalize rOp en (l, some e) = q at h ⊢
  obtain ⟨q1, q2⟩ := q
  simp only at h
  subst h
  simp only [rOps_st, rEnd_st]
end Go.Proofs.YtfgbjghfkdmcjaaGreatDoor
namespace Go.Proofs.YtfgbjghfkdmcjaaGreatDoor
set_option linter.unusedVariables false
set_option linter.unusedSimpArgs false
open Go.RowKit

/-- A part of a text: what it is and the tokens behind it, or the fault. -/
abbrev Ps (α : Type) := Except (Int × Int) (α × List MTok)
def andP {α β : Type} (p : Ps α) (f : α → List MTok → Ps β) : Ps β := match p with
  | .error e => .error e
  | .ok z => f z.1 z.2
def pFail {α : Type} (en why : Int) (l : List MTok) : Ps α := .error (nextAt en l, why)
def seesP (l : List MTok) (k : Int) (x : ByteArray) : Bool := match l with
  | [] => false
  | t :: _ => t.1 == k && t.2.2.1.toList == x.toList
def pMark (en : Int) (x : ByteArray) (l : List MTok) : Ps Unit := if seesP l 3 x then .ok ((), l.tail) else pFail en 20 l
def pNum (en : Int) : List MTok → Ps Int
  | [] => pFail en 20 []
  | t :: l => if t.1 = 2 then .ok (t.2.2.2, l) else pFail en 20 (t :: l)
def pProc (en : Int) : List MTok → Ps Int
  | [] => pFail en 20 []
  | t :: l => if t.1 = 2 ∧ 0 ≤ t.2.2.2 ∧ t.2.2.2 ≤ 99 then .ok (t.2.2.2, l) else pFail en 20 (t :: l)
def pKey (en : Int) : List MTok → Ps ByteArray
  | [] => pFail en 20 []
  | t :: l => if t.1 = 1 ∧ keyOk t.2.2.1 = true then .ok (t.2.2.1, l) else pFail en 20 (t :: l)
def pKind (en : Int) (l : List MTok) : Nat → List ByteArray → Ps Int
  | _, [] => pFail en 20 l
  | k, x :: xs => if seesP l 1 x then .ok ((k : Int), l.tail) else pKind en l (k + 1) xs
def pNums (en : Int) : List MTok → List Int → Ps (List Int)
  | [], acc => .ok (acc, [])
  | t :: l, acc => if t.1 = 2 then (if acc.length = 40 then pFail en 4 (t :: l) else pNums en l (acc ++ [t.2.2.2])) else .ok (acc, t :: l)
def pList (en : Int) (l : List MTok) : Ps (List Int) :=
  andP (pMark en ⟨#[40]⟩ l) fun _ l1 => andP (pNums en l1 []) fun xs l2 => andP (pMark en ⟨#[41]⟩ l2) fun _ l3 => .ok (xs, l3)
def pMid (en k : Int) (s : ByteArray) (l : List MTok) : Ps MOp :=
  if k = 1 ∨ k = 3 then andP (pNum en l) fun x l1 => .ok ((k, s, x, [], false, false), l1)
  else if k = 4 then
    (if seesP l 1 ⟨#[110, 105, 108]⟩ then .ok ((k, s, 0, [], true, true), l.tail)
     else match l with
      | [] => .ok ((k, s, 0, [], false, false), l)
      | t :: r => if t.1 = 2 then .ok ((k, s, t.2.2.2, [], true, false), r) else .ok ((k, s, 0, [], false, false), l))
  else if k = 2 then
    (if seesP l 3 ⟨#[40]⟩ then andP (pList en l) fun xs l1 => .ok ((k, s, 0, xs, true, false), l1)
     else .ok ((k, s, 0, [], false, false), l))
  else .ok ((k, s, 0, [], false, false), l)
abbrev pOpWords : List ByteArray := ⟨#[]⟩ :: rOpWords
abbrev pEvWords : List ByteArray := ⟨#[]⟩ :: rEvWords
def pOp (en : Int) (l : List MTok) : Ps MOp :=
  andP (pMark en ⟨#[91]⟩ l) fun _ l1 => andP (pKind en l1 0 pOpWords) fun k l2 => andP (pKey en l2) fun s l3 => andP (pMid en k s l3) fun o l4 => andP (pMark en ⟨#[93]⟩ l4) fun _ l5 => .ok (o, l5)
def pOps (en : Int) : Nat → List MTok → List MOp → Ps (List MOp)
  | 0, l, acc => .ok (acc, l)
  | f + 1, l, acc => if seesP l 3 ⟨#[91]⟩ then (if acc.length = 8 then pFail en 4 l else andP (pOp en l) fun o l1 => pOps en f l1 (acc ++ [o])) else .ok (acc, l)
def pEnd (en : Int) : List MTok → Ps Unit
  | [] => .ok ((), [])
  | t :: l => if t.1 = 4 then .ok ((), t :: l) else pFail en 20 (t :: l)
def pEvB (en k : Int) (l1 : List MTok) : Ps MEv := andP (pProc en l1) fun p l2 => andP (pOp en l2) fun o l3 => andP (pOps en 10 l3 [o]) fun os l4 => .ok ((k, p, os), l4)
def pEvA (en : Int) (l : List MTok) : Ps MEv := andP (pKind en l 0 pEvWords) fun k l1 => pEvB en k l1
def pEv (en : Int) (l : List MTok) : Ps MEv := andP (pEvA en l) fun e l4 => andP (pEnd en l4) fun _ l5 => .ok (e, l5)
def pHist (en : Int) : Nat → List MTok → List MEv → Except (Int × Int) (List MEv)
  | 0, _, out => .ok out
  | f + 1, l, out => match l with
    | [] => .ok out
    | t :: r => if t.1 = 4 then pHist en f r out
      else if out.length = 300 then .error (t.2.1, 4)
      else match pEv en (t :: r) with
        | .error e => .error e
        | .ok z => pHist en f z.2 (out ++ [z.1])

/-! They answer alike. -/
def Sim {α : Type} (l : List MTok) (p : Ps α) (q : α × Rd) : Prop := match p with
  | .ok z => q = (z.1, (z.2, none)) ∧ z.2 <:+ l
  | .error e => q.2.2 = some e
theorem Sim.bind {α β : Type} {l : List MTok} {p : Ps α} {q : α × Rd} (f : α → List MTok → Ps β) (g : α → Rd → β × Rd) (h : Sim l p q) (hf : ∀ x l', l' <:+ l → Sim l' (f x l') (g x (l', none)))
    (hg : ∀ x r e, (g x (r, some e)).2.2 = some e) : Sim l (andP p f) (g q.1 q.2) := by
  cases p with
  | error e =>
    obtain ⟨q1, q2, q3⟩ := q
    simp only [Sim] at h
    subst h
    exact hg q1 q2 e
  | ok z =>
    obtain ⟨x, l'⟩ := z
    obtain ⟨h1, h2⟩ := h
    subst h1
    have hh := hf x l' h2
    show Sim l (f x l') (g x (l', none))
    revert hh
    generalize f x l' = pf
    intro hh
    cases pf with
    | error e => exact hh
    | ok z => exact ⟨hh.1, hh.2.trans h2⟩
/-- The tokens as scanning makes them, as far as it is asked for. -/
def Wds (l : List MTok) : Prop := ∀ t ∈ l, t.1 = 1 → isWordB t.2.2.1 = true
theorem Wds.suf {l l' : List MTok} (h : Wds l) (hs : l' <:+ l) : Wds l' := fun t ht => h t (hs.subset ht)
theorem tok_none {t : MTok} {k : Int} : tokIs t k ⟨#[]⟩ = (t.1 == k) := by
  unfold tokIs
  have : (ByteArray.toList ⟨#[]⟩).isEmpty = true := by decide +kernel
  rw [this]; simp
theorem tok_some {t : MTok} {k : Int} {x : ByteArray} (hx : x.toList.isEmpty = false) : tokIs t k x = (t.1 == k && t.2.2.1.toList == x.toList) := by
  unfold tokIs
  rw [hx]; simp
theorem rIs_sees {l : List MTok} {k : Int} {x : ByteArray} (hx : x.toList.isEmpty = false) : rIs (l, none) k x = seesP l k x := by
  cases l with
  | nil => rfl
  | cons t r => exact tok_some hx
theorem want_sees {en : Int} {l : List MTok} {k : Int} {x : ByteArray} (hx : x.toList.isEmpty = false) (h : seesP l k x = true) : (rWant en (l, none) k x).2 = (l.tail, none) := by
  cases l with
  | nil => cases h
  | cons t r =>
    unfold rWant
    have : tokIs t k x = true := by rw [tok_some hx]; exact h
    simp [this]
theorem want_not {en : Int} {l : List MTok} {k : Int} {x : ByteArray} (hx : x.toList.isEmpty = false) (h : seesP l k x = false) : (rWant en (l, none) k x).2 = (l, some (nextAt en l, 20)) := by
  cases l with
  | nil => rfl
  | cons t r =>
    unfold rWant
    have : tokIs t k x = false := by rw [tok_some hx]; exact h
    simp [this, rFail]
theorem sim_mark {en : Int} {x : ByteArray} {l : List MTok} (hx : x.toList.isEmpty = false) : Sim l (pMark en x l) ((), (rWant en (l, none) 3 x).2) := by
  unfold pMark
  cases h : seesP l 3 x with
  | true => exact ⟨by rw [want_sees hx h], List.tail_suffix l⟩
  | false => show (rWant en (l, none) 3 x).2.2 = _; rw [want_not hx h]
theorem sim_num {en : Int} {l : List MTok} : Sim l (pNum en l) ((rWant en (l, none) 2 ⟨#[]⟩).1.2.2.2, (rWant en (l, none) 2 ⟨#[]⟩).2) := by
  cases l with
  | nil => rfl
  | cons t r =>
    unfold pNum rWant
    by_cases h : t.1 = 2
    · simp only [tok_none, h]; exact ⟨rfl, List.suffix_cons _ _⟩
    · have : (t.1 == 2) = false := by simpa using h
      simp only [tok_none, this, if_neg h]; rfl
theorem sim_of {α : Type} {l : List MTok} {p : Ps α} {q : α × Rd} {x : α} {l' : List MTok} (hp : p = .ok (x, l')) (hq : q = (x, (l', none))) (hs : l' <:+ l) : Sim l p q := by
  subst hp; exact ⟨hq, hs⟩
theorem sim_bad {α : Type} {l : List MTok} {p : Ps α} {q : α × Rd} {e : Int × Int} (hp : p = .error e) (hq : q.2.2 = some e) : Sim l p q := by
  subst hp; exact hq
theorem want_tok {en : Int} {t : MTok} {r : List MTok} {k : Int} (h : t.1 = k) : rWant en (t :: r, none) k ⟨#[]⟩ = (t, (r, none)) := by
  have : tokIs t k ⟨#[]⟩ = true := by rw [tok_none]; simpa using h
  simp [rWant, this]
theorem want_no {en : Int} {t : MTok} {r : List MTok} {k : Int} (h : ¬ t.1 = k) : rWant en (t :: r, none) k ⟨#[]⟩ = (noTok, (t :: r, some (t.2.1, 20))) := by
  have : tokIs t k ⟨#[]⟩ = false := by rw [tok_none]; simpa using h
  simp [rWant, this, rFail, nextAt]
theorem is_tok {t : MTok} {r : List MTok} {k : Int} (h : t.1 = k) : rIs (t :: r, none) k ⟨#[]⟩ = true := by
  show tokIs t k _ = true; rw [tok_none]; simpa using h
theorem is_no {t : MTok} {r : List MTok} {k : Int} (h : ¬ t.1 = k) : rIs (t :: r, none) k ⟨#[]⟩ = false := by
  show tokIs t k _ = false; rw [tok_none]; simpa using h
theorem sim_proc {en : Int} {l : List MTok} : Sim l (pProc en l) (rProc en (l, none)) := by
  cases l with
  | nil => rfl
  | cons t r =>
    by_cases h : t.1 = 2
    · by_cases h0 : 0 ≤ t.2.2.2 ∧ t.2.2.2 ≤ 99
      · have n1 : ¬ t.2.2.2 < 0 := by omega
        have n2 : ¬ 99 < t.2.2.2 := by omega
        refine sim_of (x := t.2.2.2) (l' := r) (if_pos ⟨h, h0⟩) ?_ (List.suffix_cons _ _)
        simp [rProc, is_tok h, n1, n2, want_tok h]
      · have n1 : t.2.2.2 < 0 ∨ 99 < t.2.2.2 := by omega
        refine sim_bad (e := (t.2.1, 20)) (if_neg (fun hh => h0 hh.2)) ?_
        simp [rProc, is_tok h, n1, rFail, rWant_st, nextAt]
    · refine sim_bad (e := (t.2.1, 20)) (if_neg (fun hh => h hh.1)) ?_
      simp [rProc, is_no h, want_no h]
theorem sim_key {en : Int} {l : List MTok} (hw : Wds l) : Sim l (pKey en l) (rKey en (l, none)) := by
  cases l with
  | nil => rfl
  | cons t r =>
    by_cases h : t.1 = 1
    · have hb := hw t (List.mem_cons_self ..) h
      by_cases h0 : t.2.2.1.size ≤ 6
      · have n1 : ¬ 6 < t.2.2.1.size := by omega
        refine sim_of (x := t.2.2.1) (l' := r) (if_pos ⟨h, by unfold keyOk; rw [hb]; simpa using h0⟩) ?_ (List.suffix_cons _ _)
        simp [rKey, is_tok h, n1, want_tok h]
      · have n1 : 6 < t.2.2.1.size := by omega
        refine sim_bad (e := (t.2.1, 20)) (if_neg (fun hh => by have := hh.2; unfold keyOk at this; simp at this; omega)) ?_
        simp [rKey, is_tok h, n1, rFail, rWant_st, nextAt]
    · refine sim_bad (e := (t.2.1, 20)) (if_neg (fun hh => h hh.1)) ?_
      simp [rKey, is_no h, want_no h]
theorem sim_from {en : Int} {l : List MTok} : ∀ (ws : List ByteArray) (k : Nat), (∀ x ∈ ws, x.toList.isEmpty = false) → Sim l (pKind en l (k + 1) ws) (rWordFrom en (l, none) k ws)
  | [], k, _ => rfl
  | x :: xs, k, h => by
    unfold pKind rWordFrom
    have hx := h x (List.mem_cons_self ..)
    rw [rIs_sees hx]
    cases hs : seesP l 1 x with
    | true => refine ⟨?_, List.tail_suffix l⟩; simp [want_sees hx hs]
    | false => exact sim_from xs (k + 1) (fun y hy => h y (List.mem_cons_of_mem _ hy))
theorem sees_empty {l : List MTok} (hw : Wds l) : seesP l 1 ⟨#[]⟩ = false := by
  cases l with
  | nil => rfl
  | cons t r =>
    show (t.1 == 1 && t.2.2.1.toList == ByteArray.toList ⟨#[]⟩) = false
    by_cases h : t.1 = 1
    · obtain ⟨b, q, hq, _⟩ := word_form (hw t (List.mem_cons_self ..) h)
      have h2 : (t.2.2.1.toList == ByteArray.toList ⟨#[]⟩) = false := by
        rw [ByteArray.toList_eq, ByteArray.toList_eq, hq]; rfl
      rw [h2, Bool.and_false]
    · have : (t.1 == 1) = false := by simpa using h
      rw [this, Bool.false_and]
theorem sim_kind {en : Int} {l : List MTok} (ws : List ByteArray) (hw : Wds l) (h : ∀ x ∈ ws, x.toList.isEmpty = false) : Sim l (pKind en l 0 (⟨#[]⟩ :: ws)) (rWordFrom en (l, none) 0 ws) := by
  unfold pKind
  rw [sees_empty hw]
  exact sim_from ws 0 h
theorem sim_nums {en : Int} : ∀ (l : List MTok) (acc : List Int), Sim l (pNums en l acc) (rList l acc)
  | [], acc => ⟨rfl, List.suffix_refl _⟩
  | t :: l, acc => by
    unfold pNums rList
    rw [tok_none]
    by_cases h : t.1 = 2
    · rw [if_pos h, if_pos (show (t.1 == 2) = true by simpa using h)]
      by_cases h4 : acc.length = 40
      · rw [if_pos h4, if_pos h4]; rfl
      · rw [if_neg h4, if_neg h4]
        have hh := sim_nums (en := en) l (acc ++ [t.2.2.2])
        revert hh
        generalize pNums en l (acc ++ [t.2.2.2]) = pf
        intro hh
        cases pf with
        | error e => exact hh
        | ok z => exact ⟨hh.1, hh.2.trans (List.suffix_cons _ _)⟩
    · rw [if_neg h, if_neg (show ¬ (t.1 == 2) = true by simpa using h)]
      exact ⟨rfl, List.suffix_refl _⟩
end Go.Proofs.YtfgbjghfkdmcjaaGreatDoor
namespace Go.Proofs.YtfgbjghfkdmcjaaGreatDoor
set_option linter.unusedVariables false
set_option linter.unusedSimpArgs false
open Go.RowKit

theorem n40 : (ByteArray.toList ⟨#[40]⟩).isEmpty = false := by rw [ByteArray.toList_eq]; rfl
theorem n41 : (ByteArray.toList ⟨#[41]⟩).isEmpty = false := by rw [ByteArray.toList_eq]; rfl
theorem n91 : (ByteArray.toList ⟨#[91]⟩).isEmpty = false := by rw [ByteArray.toList_eq]; rfl
theorem n93 : (ByteArray.toList ⟨#[93]⟩).isEmpty = false := by rw [ByteArray.toList_eq]; rfl
theorem nnil : (ByteArray.toList ⟨#[110, 105, 108]⟩).isEmpty = false := by rw [ByteArray.toList_eq]; rfl
theorem nops : ∀ x ∈ rOpWords, x.toList.isEmpty = false := by
  intro x hx
  rw [ByteArray.toList_eq]
  simp only [rOpWords, List.mem_cons, List.not_mem_nil, or_false] at hx
  rcases hx with h | h | h | h <;> subst h <;> rfl
theorem nevs : ∀ x ∈ rEvWords, x.toList.isEmpty = false := by
  intro x hx
  rw [ByteArray.toList_eq]
  simp only [rEvWords, List.mem_cons, List.not_mem_nil, or_false] at hx
  rcases hx with h | h | h | h <;> subst h <;> rfl
theorem sim_list {en : Int} {l : List MTok} (h : seesP l 3 ⟨#[40]⟩ = true) :
    Sim l (pList en l) ((rList (rWant en (l, none) 3 ⟨#[40]⟩).2.1 []).1, (rWant en (rList (rWant en (l, none) 3 ⟨#[40]⟩).2.1 []).2 3 ⟨#[41]⟩).2) := by
  rw [want_sees n40 h]
  have h1 : pMark en ⟨#[40]⟩ l = .ok ((), l.tail) := by unfold pMark; rw [if_pos h]
  have h2 : Sim l.tail (andP (pNums en l.tail []) fun xs l2 => andP (pMark en ⟨#[41]⟩ l2) fun _ l3 => .ok (xs, l3)) ((rList l.tail []).1, (rWant en (rList l.tail []).2 3 ⟨#[41]⟩).2) := by
    refine Sim.bind _ (fun xs r => (xs, (rWant en r 3 ⟨#[41]⟩).2)) (sim_nums l.tail []) (fun xs l' _ => ?_) (fun x r e => by simp [rWant_st])
    exact Sim.bind _ (fun _ r => (xs, r)) (sim_mark (x := ⟨#[41]⟩) n41) (fun _ l' _ => ⟨rfl, List.suffix_refl _⟩) (fun _ _ _ => rfl)
  unfold pList
  rw [h1]
  show Sim l (andP (pNums en l.tail []) fun xs l2 => andP (pMark en ⟨#[41]⟩ l2) fun _ l3 => .ok (xs, l3)) ((rList l.tail []).1, (rWant en (rList l.tail []).2 3 ⟨#[41]⟩).2)
  revert h2
  generalize (andP (pNums en l.tail []) fun xs l2 => andP (pMark en ⟨#[41]⟩ l2) fun _ l3 => .ok (xs, l3)) = pf
  intro h2
  cases pf with
  | error e => exact h2
  | ok z => exact ⟨h2.1, h2.2.trans (List.tail_suffix l)⟩
theorem sim_mid {en k : Int} {s : ByteArray} {l : List MTok} : Sim l (pMid en k s l) (rMid en k s (l, none)) := by
  unfold pMid rMid
  by_cases h13 : k = 1 ∨ k = 3
  · rw [if_pos h13, if_pos h13]
    exact Sim.bind _ (fun x r => ((k, s, x, [], false, false), r)) (sim_num (en := en) (l := l)) (fun x l' _ => ⟨rfl, List.suffix_refl _⟩) (fun _ _ _ => rfl)
  · rw [if_neg h13, if_neg h13]
    by_cases h4 : k = 4
    · rw [if_pos h4, if_pos h4, rIs_sees nnil]
      cases hs : seesP l 1 ⟨#[110, 105, 108]⟩ with
      | true => refine ⟨?_, List.tail_suffix l⟩; simp [want_sees nnil hs]
      | false =>
        cases l with
        | nil => exact ⟨rfl, List.suffix_refl _⟩
        | cons t r =>
          by_cases h : t.1 = 2
          · refine sim_of (x := (k, s, t.2.2.2, [], true, false)) (l' := r) (by simp [h]) (by simp [is_tok h, want_tok h]) (List.suffix_cons _ _)
          · refine sim_of (x := (k, s, 0, [], false, false)) (l' := t :: r) (by simp [h]) (by simp [is_no h]) (List.suffix_refl _)
    · rw [if_neg h4, if_neg h4]
      by_cases h2 : k = 2
      · rw [if_pos h2, if_pos h2, rIs_sees n40]
        cases hs : seesP l 3 ⟨#[40]⟩ with
        | true => exact Sim.bind (fun xs l1 => .ok ((k, s, 0, xs, true, false), l1)) (fun xs r => ((k, s, 0, xs, true, false), r)) (sim_list hs) (fun x l' _ => ⟨rfl, List.suffix_refl _⟩) (fun _ _ _ => rfl)
        | false => exact ⟨rfl, List.suffix_refl _⟩
      · rw [if_neg h2, if_neg h2]
        exact ⟨rfl, List.suffix_refl _⟩
theorem sim_op {en : Int} {l : List MTok} (hw : Wds l) : Sim l (pOp en l) (rOp en (l, none)) := by
  refine Sim.bind _ (fun _ r1 => ((rMid en (rWordFrom en r1 0 rOpWords).1 (rKey en (rWordFrom en r1 0 rOpWords).2).1 (rKey en (rWordFrom en r1 0 rOpWords).2).2).1, (rWant en (rMid en (rWordFrom en r1 0 rOpWords).1 (rKey en (rWordFrom en r1 0 rOpWords).2).1 (rKey en (rWordFrom en r1 0 rOpWords).2).2).2 3 ⟨#[93]⟩).2)) (sim_mark (x := ⟨#[91]⟩) n91) (fun _ l1 hs1 => ?_) (fun _ r e => by simp only [rWord_st, rKey_st, rMid_st, rWant_st])
  have hw1 := hw.suf hs1
  refine Sim.bind _ (fun k r2 => ((rMid en k (rKey en r2).1 (rKey en r2).2).1, (rWant en (rMid en k (rKey en r2).1 (rKey en r2).2).2 3 ⟨#[93]⟩).2)) (sim_kind rOpWords hw1 nops) (fun k l2 hs2 => ?_) (fun _ r e => by simp only [rKey_st, rMid_st, rWant_st])
  have hw2 := hw1.suf hs2
  refine Sim.bind _ (fun s r3 => ((rMid en k s r3).1, (rWant en (rMid en k s r3).2 3 ⟨#[93]⟩).2)) (sim_key hw2) (fun s l3 hs3 => ?_) (fun _ r e => by simp only [rMid_st, rWant_st])
  refine Sim.bind _ (fun o r4 => (o, (rWant en r4 3 ⟨#[93]⟩).2)) (sim_mid (en := en) (k := k) (s := s) (l := l3)) (fun o l4 hs4 => ?_) (fun _ r e => by simp only [rWant_st])
  exact Sim.bind _ (fun _ r5 => (o, r5)) (sim_mark (x := ⟨#[93]⟩) n93) (fun _ l' _ => ⟨rfl, List.suffix_refl _⟩) (fun _ _ _ => rfl)
theorem rOps_two {en : Int} {l : List MTok} {e : Int × Int} (f : Nat) (acc : List MOp) (q : MOp × Rd) (h : q.2 = (l, some e)) : (rOps en f q.2 (acc ++ [q.1])).2.2 = some e := by
  rw [h, rOps_st]
theorem sim_ops {en : Int} : ∀ (f : Nat) (l : List MTok) (acc : List MOp), Wds l → Sim l (pOps en f l acc) (rOps en f (l, none) acc)
  | 0, l, acc, _ => ⟨rfl, List.suffix_refl _⟩
  | f + 1, l, acc, hw => by
    unfold pOps rOps
    rw [rIs_sees n91]
    cases hs : seesP l 3 ⟨#[91]⟩ with
    | false => exact ⟨rfl, List.suffix_refl _⟩
    | true =>
      by_cases h8 : acc.length = 8
      · simp only [h8, if_true]
        exact rOps_two f acc _ rOp_st
      · simp only [if_neg h8, if_true]
        exact Sim.bind (fun o l1 => pOps en f l1 (acc ++ [o])) (fun o r => rOps en f r (acc ++ [o])) (sim_op hw) (fun o l' hs' => sim_ops f l' _ (hw.suf hs')) (fun _ _ _ => by rw [rOps_st])
/-- An event without its end. -/
def rEvB (en k : Int) (r : Rd) : MEv × Rd := ((k, (rProc en r).1, (rOps en 10 (rOp en (rProc en r).2).2 [(rOp en (rProc en r).2).1]).1), (rOps en 10 (rOp en (rProc en r).2).2 [(rOp en (rProc en r).2).1]).2)
theorem rOps_one {en : Int} {l : List MTok} {e : Int × Int} (f : Nat) (q : MOp × Rd) (h : q.2 = (l, some e)) : (rOps en f q.2 [q.1]).2.2 = some e := by
  rw [h, rOps_st]
theorem rEvB_st {en k : Int} {l : List MTok} {e : Int × Int} : (rEvB en k (l, some e)).2.2 = some e := by
  unfold rEvB
  rw [rProc_st]
  exact rOps_one 10 _ rOp_st
theorem sim_evB {en k : Int} {l : List MTok} (hw : Wds l) : Sim l (pEvB en k l) (rEvB en k (l, none)) := by
  refine Sim.bind _ (fun p r => ((k, p, (rOps en 10 (rOp en r).2 [(rOp en r).1]).1), (rOps en 10 (rOp en r).2 [(rOp en r).1]).2)) (sim_proc (en := en) (l := l)) (fun p l2 hs2 => ?_) (fun _ r e => rOps_one 10 _ rOp_st)
  have hw2 := hw.suf hs2
  refine Sim.bind _ (fun o r => ((k, p, (rOps en 10 r [o]).1), (rOps en 10 r [o]).2)) (sim_op (en := en) hw2) (fun o l3 hs3 => ?_) (fun _ r e => by simp only [rOps_st])
  have hw3 := hw2.suf hs3
  exact Sim.bind _ (fun os r => ((k, p, os), r)) (sim_ops (en := en) 10 l3 [o] hw3) (fun os l4 hs4 => ⟨rfl, List.suffix_refl _⟩) (fun _ _ _ => rfl)
theorem sim_evA {en : Int} {l : List MTok} (hw : Wds l) : Sim l (pEvA en l) (rEvB en (rWordFrom en (l, none) 0 rEvWords).1 (rWordFrom en (l, none) 0 rEvWords).2) :=
  Sim.bind _ (fun k r => rEvB en k r) (sim_kind rEvWords hw nevs) (fun k l1 hs => sim_evB (hw.suf hs)) (fun _ _ _ => rEvB_st)
theorem pKind_lt {en : Int} {l : List MTok} {z : Int × List MTok} : ∀ (ws : List ByteArray) (k : Nat), pKind en l k ws = .ok z → z.2.length < l.length
  | [], k, h => by cases h
  | x :: xs, k, h => by
    unfold pKind at h
    cases hs : seesP l 1 x with
    | true =>
      rw [hs] at h
      cases h
      cases l with
      | nil => cases hs
      | cons t r => simp
    | false =>
      rw [hs] at h
      exact pKind_lt xs (k + 1) h
theorem pEvA_lt {en : Int} {l : List MTok} {z : MEv × List MTok} (hw : Wds l) (h : pEvA en l = .ok z) : z.2.length < l.length := by
  unfold pEvA at h
  have hk := sim_kind (en := en) rEvWords hw nevs
  cases hq : pKind en l 0 pEvWords with
  | error e => rw [hq] at h; cases h
  | ok y =>
    rw [hq] at h
    rw [hq] at hk
    have h1 := pKind_lt _ _ hq
    have h2 : pEvB en y.1 y.2 = .ok z := h
    have h3 := sim_evB (en := en) (k := y.1) (hw.suf hk.2)
    rw [h2] at h3
    have := h3.2.length_le
    omega
theorem rSkip_le : ∀ (l : List MTok), (rSkip l).length ≤ l.length
  | [] => Nat.le_refl _
  | t :: l => by
    unfold rSkip
    split
    · have := rSkip_le l; simp; omega
    · exact Nat.le_refl _
theorem sim_ev {en : Int} {l : List MTok} (hw : Wds l) :
    match pEv en l with
    | .ok z => ∃ l', rEv en (l, none) = (z.1, (l', none)) ∧ rSkip l' = rSkip z.2 ∧ z.2 <:+ l ∧ z.2.length < l.length
    | .error e => (rEv en (l, none)).2.2 = some e := by
  have h := sim_evA (en := en) hw
  have hr : rEv en (l, none) = ((rEvB en (rWordFrom en (l, none) 0 rEvWords).1 (rWordFrom en (l, none) 0 rEvWords).2).1, rEnd en (rEvB en (rWordFrom en (l, none) 0 rEvWords).1 (rWordFrom en (l, none) 0 rEvWords).2).2) := rfl
  rw [hr]
  generalize rEvB en (rWordFrom en (l, none) 0 rEvWords).1 (rWordFrom en (l, none) 0 rEvWords).2 = q at h ⊢
  unfold pEv
  cases hp : pEvA en l with
  | error e =>
    rw [hp] at h
    obtain ⟨q1, q2, q3⟩ := q
    simp only [Sim] at h
    subst h
    show (rEnd en (q2, some e)).2 = some e
    rw [rEnd_st]
  | ok z =>
    have hlt := pEvA_lt hw hp
    rw [hp] at h
    obtain ⟨hq, hs⟩ := h
    subst hq
    obtain ⟨x, l4⟩ := z
    cases l4 with
    | nil => exact ⟨[], rfl, rfl, hs, hlt⟩
    | cons t r =>
      by_cases h4 : t.1 = 4
      · have he : pEnd en (t :: r) = .ok ((), t :: r) := if_pos h4
        have hx : (andP (.ok (x, t :: r) : Ps MEv) fun e l4 => andP (pEnd en l4) fun _ l5 => .ok (e, l5)) = .ok (x, t :: r) := by
          show (andP (pEnd en (t :: r)) fun _ l5 => .ok (x, l5)) = _
          rw [he]; rfl
        rw [hx]
        refine ⟨r, ?_, ?_, hs, hlt⟩
        · simp [rEnd, want_tok h4]
        · simp [rSkip, h4]
      · have he : pEnd en (t :: r) = .error (t.2.1, 20) := if_neg h4
        have hx : (andP (.ok (x, t :: r) : Ps MEv) fun e l4 => andP (pEnd en l4) fun _ l5 => .ok (e, l5)) = .error (t.2.1, 20) := by
          show (andP (pEnd en (t :: r)) fun _ l5 => .ok (x, l5)) = _
          rw [he]; rfl
        rw [hx]
        simp [rEnd, want_no h4]
theorem pHist_nil {en : Int} (f : Nat) (out : List MEv) : pHist en (f + 1) [] out = .ok out := by rw [pHist]
theorem pHist_line {en : Int} (f : Nat) (t : MTok) (r : List MTok) (out : List MEv) (h : t.1 = 4) : pHist en (f + 1) (t :: r) out = pHist en f r out := by rw [pHist, if_pos h]
theorem pHist_full {en : Int} (f : Nat) (t : MTok) (r : List MTok) (out : List MEv) (h : ¬ t.1 = 4) (h3 : out.length = 300) : pHist en (f + 1) (t :: r) out = .error (t.2.1, 4) := by rw [pHist, if_neg h, if_pos h3]
theorem pHist_bad {en : Int} (f : Nat) (t : MTok) (r : List MTok) (out : List MEv) (e : Int × Int) (h : ¬ t.1 = 4) (h3 : ¬ out.length = 300) (hp : pEv en (t :: r) = .error e) : pHist en (f + 1) (t :: r) out = .error e := by rw [pHist, if_neg h, if_neg h3, hp]
theorem pHist_more {en : Int} (f : Nat) (t : MTok) (r : List MTok) (out : List MEv) (z : MEv × List MTok) (h : ¬ t.1 = 4) (h3 : ¬ out.length = 300) (hp : pEv en (t :: r) = .ok z) : pHist en (f + 1) (t :: r) out = pHist en f z.2 (out ++ [z.1]) := by rw [pHist, if_neg h, if_neg h3, hp]
theorem rHist_at {en : Int} (g : Nat) (l : List MTok) (out : List MEv) : rHist en (g + 1) l out = if rSkip l = [] then .ok out else rNext (rEv en (if out.length = 300 then rFail en 4 (rSkip l, none) else (rSkip l, none))) fun x l' => rHist en g l' (out ++ [x]) := rfl
theorem rHist_nil {en : Int} (g : Nat) (l : List MTok) (out : List MEv) (h : rSkip l = []) : rHist en (g + 1) l out = .ok out := by rw [rHist_at, if_pos h]
theorem rHist_bad {en : Int} (g : Nat) (l : List MTok) (out : List MEv) (e : Int × Int) (h : ¬ rSkip l = []) (q : MEv × Rd) (hq : rEv en (if out.length = 300 then rFail en 4 (rSkip l, none) else (rSkip l, none)) = q) (he : q.2.2 = some e) : rHist en (g + 1) l out = .error e := by
  rw [rHist_at, if_neg h, hq]
  unfold rNext
  rw [he]
theorem rHist_more {en : Int} (g : Nat) (l : List MTok) (out : List MEv) (x : MEv) (l' : List MTok) (h : ¬ rSkip l = []) (hq : rEv en (if out.length = 300 then rFail en 4 (rSkip l, none) else (rSkip l, none)) = (x, (l', none))) : rHist en (g + 1) l out = rHist en g l' (out ++ [x]) := by
  rw [rHist_at, if_neg h, hq]
  rfl
/-- The code's reader answers as the document's. -/
theorem sim_hist {en : Int} : ∀ (n : Nat) (l l' : List MTok) (out : List MEv) (f g : Nat), Wds l → l.length ≤ n → rSkip l' = rSkip l → l.length < f → (rSkip l).length < g → pHist en f l out = rHist en g l' out := by
  intro n
  induction n with
  | zero =>
    intro l l' out f g hw hn hs hf hg
    have hl : l = [] := List.eq_nil_of_length_eq_zero (by omega)
    subst hl
    obtain ⟨f, rfl⟩ := Nat.exists_eq_succ_of_ne_zero (n := f) (by omega)
    obtain ⟨g, rfl⟩ := Nat.exists_eq_succ_of_ne_zero (n := g) (by omega)
    rw [pHist_nil, rHist_nil _ _ _ hs]
  | succ n ih =>
    intro l l' out f g hw hn hs hf hg
    obtain ⟨f, rfl⟩ := Nat.exists_eq_succ_of_ne_zero (n := f) (by omega)
    obtain ⟨g, rfl⟩ := Nat.exists_eq_succ_of_ne_zero (n := g) (by omega)
    cases l with
    | nil => rw [pHist_nil, rHist_nil _ _ _ hs]
    | cons t r =>
      have hn' : r.length ≤ n := by rw [List.length_cons] at hn; omega
      have hf' : r.length < f := by rw [List.length_cons] at hf; omega
      by_cases h4 : t.1 = 4
      · have hk : rSkip (t :: r) = rSkip r := by rw [rSkip, if_pos h4]
        rw [hk] at hs hg
        rw [pHist_line _ _ _ _ h4]
        exact ih r l' out f (g + 1) (fun x hx => hw x (List.mem_cons_of_mem _ hx)) hn' hs hf' hg
      · have hk : rSkip (t :: r) = t :: r := by rw [rSkip, if_neg h4]
        rw [hk] at hs hg
        have hg' : r.length < g := by rw [List.length_cons] at hg; omega
        have hne : ¬ rSkip l' = [] := by rw [hs]; exact List.cons_ne_nil _ _
        by_cases h3 : out.length = 300
        · rw [pHist_full _ _ _ _ h4 h3]
          refine (rHist_bad g l' out _ hne _ rfl ?_).symm
          rw [if_pos h3, hs]
          have hfl : rFail en 4 (t :: r, none) = (t :: r, some (t.2.1, 4)) := rfl
          rw [hfl, rEv_st]
        · have he := sim_ev (en := en) hw
          cases hp : pEv en (t :: r) with
          | error e =>
            rw [hp] at he
            rw [pHist_bad _ _ _ _ e h4 h3 hp]
            refine (rHist_bad g l' out _ hne _ rfl ?_).symm
            rw [if_neg h3, hs]
            exact he
          | ok z =>
            rw [hp] at he
            obtain ⟨l'', h1, h2, h5, h6⟩ := he
            rw [pHist_more _ _ _ _ z h4 h3 hp, rHist_more g l' out z.1 l'' hne (by rw [if_neg h3, hs]; exact h1)]
            have hz : z.2.length ≤ r.length := by rw [List.length_cons] at h6; omega
            exact ih z.2 l'' _ f g (hw.suf h5) (by omega) h2 (by omega) (by have := rSkip_le z.2; omega)
theorem hist_alike {en : Int} {l : List MTok} (hw : Wds l) : pHist en (l.length + 1) l [] = rHist en (l.length + 1) l [] :=
  sim_hist l.length l l [] _ _ hw (Nat.le_refl _) rfl (by omega) (by have := rSkip_le l; omega)
theorem wds_scan {s : ByteArray} {l : List MTok} (h : scanM s = .ok l) : Wds l := by
  intro t ht h1
  rcases scanM_form h t ht with ⟨_, _, b, r, hx, hb, hr⟩ | h | h | h
  · exact word_of hx hb hr
  · omega
  · omega
  · omega
end Go.Proofs.YtfgbjghfkdmcjaaGreatDoor
