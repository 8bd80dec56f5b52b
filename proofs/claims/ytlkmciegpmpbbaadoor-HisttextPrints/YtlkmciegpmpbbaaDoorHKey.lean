/-
  What a key is: the plain part; walks of the code's isKey and of the reference's IsWord and IsKey.
-/
import Derived.Test.YtlkmciegpmpbbaaDoorS3
import Derived.Test.YtlkmciegpmpbbaaDoorBack
import Derived.Test.YtlkmciegpmpbbaaDoorR1
import Derived.Deep.RegionHeld3
import Derived.Lib.ConvBytes
namespace Go.Proofs.YtlkmciegpmpbbaaDoor
set_option linter.unusedVariables false
set_option linter.unusedSimpArgs false
open Go.RowKit

theorem ret_b {b c : Bool} (h : c = b) : Ending.returned (.bool b) = .returned (.bool c) := by rw [h]

/-- A word, by its bytes. -/
def isWordL : List UInt8 → Bool
  | [] => false
  | b :: r => isSm b.toNat && r.all (fun x => isWd x.toNat)
def isWordB (s : ByteArray) : Bool := isWordL s.data.toList
def keyOk (s : ByteArray) : Bool := isWordB s && decide (s.size ≤ 6)

theorem all_bl (s : ByteArray) : s.data.toList = bl s 0 s.size := by
  have := extract_bl s 0 s.size (Nat.le_refl _)
  rwa [extract_all] at this

theorem word_form {s : ByteArray} (h : isWordB s = true) : ∃ b r, s.data.toList = b :: r ∧ isSm b.toNat = true ∧ ∀ x ∈ r, isWd x.toNat = true := by
  unfold isWordB at h
  cases hl : s.data.toList with
  | nil => rw [hl] at h; cases h
  | cons b r =>
    rw [hl] at h
    simp only [isWordL, Bool.and_eq_true, List.all_eq_true] at h
    exact ⟨b, r, rfl, h.1, h.2⟩
theorem word_of {s : ByteArray} {b : UInt8} {r : List UInt8} (h : s.data.toList = b :: r) (hb : isSm b.toNat = true) (hr : ∀ x ∈ r, isWd x.toNat = true) : isWordB s = true := by
  unfold isWordB; rw [h]
  simp only [isWordL, Bool.and_eq_true, List.all_eq_true]
  exact ⟨hb, hr⟩

theorem scan_word {s : ByteArray} (h : isWordB s = true) (hs : s.size ≤ 20000) : scanM s = .ok [((1 : Int), (0 : Int), s, (0 : Int))] := by
  obtain ⟨b, r, hl, hb, hr⟩ := word_form h
  have ht : TokOk ((1 : Int), (0 : Int), s, (0 : Int)) := .inl ⟨rfl, rfl, b, r, hl, hb, hr⟩
  obtain ⟨hne, h32, htok⟩ := tok_again (s := s) (i := 0) (r := []) ht (by rw [List.drop_zero]; simp) (.inr (.inr (.inl rfl)))
  have hsz : (tx ((1 : Int), (0 : Int), s, (0 : Int))).length = s.size := by show s.data.toList.length = _; simp
  have hpos : 0 < s.size := by rw [← hsz]; exact List.length_pos_iff.2 hne
  rw [hsz, Nat.zero_add] at htok
  rw [scanM_left hs, left_tok [] hpos h32 htok, left_end _ (by omega)]
  rfl

/-- A key, by what its text is scanned as. -/
theorem key_scanned {s : ByteArray} {l : List MTok} (h6 : s.size ≤ 6) (h : scanM s = .ok l) : keyOk s = (decide (l.length = 1) && ((l.getD 0 default).1 == 1 && ((l.getD 0 default).2.2.1.toList == s.toList))) := by
  have e6 : decide (s.size ≤ 6) = true := by simpa using h6
  unfold keyOk
  rw [e6, Bool.and_true]
  cases hw : isWordB s with
  | true =>
    have := scan_word hw (by omega)
    rw [h] at this
    cases this
    simp
  | false =>
    symm
    rw [Bool.eq_false_iff]
    intro hc
    simp only [Bool.and_eq_true, decide_eq_true_eq, beq_iff_eq] at hc
    obtain ⟨h1, h2, h3⟩ := hc
    match l, h1 with
    | [t], _ =>
      have hok := scanM_form h t (by simp)
      simp only [List.getD_cons_zero] at h2 h3
      rcases hok with ⟨_, _, b, r, e, hb, hr⟩ | ⟨e, _⟩ | ⟨e, _⟩ | ⟨e, _⟩
      · have hs : s.data.toList = b :: r := by
          rw [ByteArray.toList_eq, ByteArray.toList_eq] at h3
          rw [← h3]; exact e
        rw [word_of hs hb hr] at hw
        cases hw
      · omega
      · omega
      · omega
theorem key_bad {s : ByteArray} {q : Nat × Nat} (h6 : s.size ≤ 6) (h : scanM s = .error q) : keyOk s = false := by
  unfold keyOk
  cases hw : isWordB s with
  | false => rfl
  | true => rw [scan_word hw (by omega)] at h; cases h
theorem key_long {s : ByteArray} (h6 : 6 < s.size) : keyOk s = false := by
  unfold keyOk
  have : decide (s.size ≤ 6) = false := by simpa using h6
  rw [this, Bool.and_false]

theorem ToksIn.later {S T : Nat → Prop} {w w' : World} {v : Value} {l : List MTok} (h : ToksIn S w v l) (hb : Below w.heap.size w w') (hT : ∀ b, b < w.heap.size → S b → T b) : ToksIn T w' v l :=
  RowsIn.keep h (by omega) (fun _ _ hr => hr) (keeps_below hb) hT

theorem bl_zero {s : ByteArray} (h : 0 < s.size) : ∃ n, s.size = n + 1 ∧ s.data.toList = UInt8.ofNat (bt s 0) :: bl s 1 n := by
  obtain ⟨n, hn⟩ : ∃ n, s.size = n + 1 := ⟨s.size - 1, by omega⟩
  refine ⟨n, hn, ?_⟩
  rw [all_bl, hn]; rfl
theorem wordB_none {s : ByteArray} (h : ¬ 0 < s.size) : isWordB s = false := by
  unfold isWordB
  have : s.data.toList = [] := List.length_eq_zero_iff.1 (by rw [Array.length_toList]; show s.size = 0; omega)
  rw [this]; rfl
theorem wordB_first {s : ByteArray} (h : 0 < s.size) (h0 : isSm (bt s 0) = false) : isWordB s = false := by
  obtain ⟨n, _, e⟩ := bl_zero h
  unfold isWordB; rw [e]
  show (isSm (UInt8.ofNat (bt s 0)).toNat && _) = false
  rw [toNat_bt, h0]; rfl
theorem wordB_miss {s : ByteArray} {j : Nat} (h : j < s.size) (h0 : isWd (bt s j) = false) : isWordB s = false := by
  cases hw : isWordB s with
  | false => rfl
  | true =>
    obtain ⟨b, r, e, hb, hr⟩ := word_form hw
    have hj : s.data.toList[j]? = some (s.data.toList[j]'(by simpa using h)) := List.getElem?_eq_getElem _
    have hbt := bt_list hj
    have hm : s.data.toList[j]'(by simpa using h) ∈ b :: r := by rw [← e]; exact List.getElem_mem _
    rw [hbt] at h0
    rcases List.mem_cons.1 hm with e1 | e1
    · rw [e1] at h0; simp [isWd, hb] at h0
    · rw [hr _ e1] at h0; cases h0
theorem wordB_all {s : ByteArray} (h : 0 < s.size) (h0 : isSm (bt s 0) = true) (ha : ∀ j, j < s.size → isWd (bt s j) = true) : isWordB s = true := by
  obtain ⟨n, hn, e⟩ := bl_zero h
  refine word_of e (by rw [toNat_bt]; exact h0) (fun x hx => ?_)
  obtain ⟨j, hj, ex⟩ := mem_bl hx
  rw [ex]; exact ha _ (by omega)

set_option maxHeartbeats 1000000 in
set_option maxRecDepth 100000 in
/-- The reference's IsWord. -/
theorem isWord_any (s : ByteArray) (w : World) (hs : s.size ≤ 9223372036854775806) :
    Calls Tryd.prog 39 #[.string s] w fun e w' => e = .returned (.bool (isWordB s)) ∧ w' = w := by
  by_cases h0 : 0 < s.size
  · have hne : (s.toList == []) = false := by
      rw [ByteArray.toList_eq]
      cases h : s.data.toList with
      | nil =>
        have h1 : s.data.toList.length = 0 := by rw [h]; rfl
        rw [Array.length_toList] at h1
        have e : s.data.size = s.size := rfl
        omega
      | cons _ _ => rfl
    have hne2 : ¬ s.toList = [] := by intro h; rw [h] at hne; cases hne
    have hne3 : s.toList.isEmpty = false := by simpa using hne2
    have h0i : (0 : Int) < (s.size : Int) := by omega
    have HB0 := hid (bt_get h0)
    cases q0 : isSm (s[0]'h0).toNat with
    | false =>
      have HK := hid (wordB_first h0 (by rw [← HB0.out]; exact q0))
      go_enter Tryd.func39, Tryd.ntmps39
      go_wp2_with (go_at_call 44; refine (lt_c _ _).mono ?_; rintro e w' ⟨rfl, rfl⟩)
      go_ret
      exact ⟨ret_b HK.out, rfl⟩
    | true =>
      have HK0 : Hid (isSm (bt s 0) = true) := by show isSm (bt s 0) = true; rw [← HB0.out]; exact q0
      go_enter Tryd.func39, Tryd.ntmps39
      go_wp2_with (go_at_call 44; refine (lt_c _ _).mono ?_; rintro e w' ⟨rfl, rfl⟩)
      go_loopg [3] s.size (fun g t wr => ∃ k : Nat, k ≤ s.size ∧ s.size - k ≤ g ∧ t = .int .i64 k ∧ wr = w ∧ Aside (∀ j, j < k → isWd (bt s j) = true))
      case atStart => exact ⟨0, Nat.zero_le _, by omega, rfl, rfl, fun j h => by omega⟩
      case round =>
        obtain ⟨k, hk, hg, rfl, rfl, A⟩ := hrel
        by_cases hlt : k < s.size
        · have hlti : (k : Int) < (s.size : Int) := by omega
          have HB := hid (bt_get hlt)
          cases q1 : isSm (s[k]'hlt).toNat with
          | true =>
            go_wp2_with (go_at_call 44; refine (lt_c _ _).mono ?_; rintro e w' ⟨rfl, rfl⟩)
            go_roundg (s.size - (k + 1))
            case measure => omega
            case rel =>
              refine ⟨k + 1, by omega, by omega, by go_num, rfl, (show Aside _ from fun j h2 => ?_)⟩
              by_cases e : j = k
              · subst e; rw [← HB.out]; simp [isWd, q1]
              · exact A.out j (by omega)
          | false =>
            cases q2 : isDg (s[k]'hlt).toNat with
            | true =>
              go_wp2_with (first | (go_at_call 44; refine (lt_c _ _).mono ?_; rintro e w' ⟨rfl, rfl⟩) | (go_at_call 45; refine (dg_c _ _).mono ?_; rintro e w' ⟨rfl, rfl⟩))
              go_roundg (s.size - (k + 1))
              case measure => omega
              case rel =>
                refine ⟨k + 1, by omega, by omega, by go_num, rfl, (show Aside _ from fun j h2 => ?_)⟩
                by_cases e : j = k
                · subst e; rw [← HB.out]; simp [isWd, q1, q2]
                · exact A.out j (by omega)
            | false =>
              have HK := hid (wordB_miss hlt (by rw [← HB.out]; simp [isWd, q1, q2]))
              go_wp2_with (first | (go_at_call 44; refine (lt_c _ _).mono ?_; rintro e w' ⟨rfl, rfl⟩) | (go_at_call 45; refine (dg_c _ _).mono ?_; rintro e w' ⟨rfl, rfl⟩))
              go_ret
              exact ⟨ret_b HK.out, rfl⟩
        · have hlti : ¬ (k : Int) < (s.size : Int) := by omega
          have HK := hid (wordB_all h0 HK0.out (fun j hj => A.out j (by omega)))
          go_wp2_with fail
          go_ret
          exact ⟨ret_b HK.out, rfl⟩
  · have HK := hid (wordB_none h0)
    have hz : s.toList = [] := by rw [ByteArray.toList_eq]; exact List.length_eq_zero_iff.1 (by rw [Array.length_toList]; show s.size = 0; omega)
    have he : s.toList.isEmpty = true := by rw [hz]; rfl
    go_enter Tryd.func39, Tryd.ntmps39
    go_wp2_with fail
    go_ret
    exact ⟨ret_b HK.out, rfl⟩

/-- The reference's IsKey. -/
theorem refKey_any (s : ByteArray) (w : World) (hs : s.size ≤ 9223372036854775806) :
    Calls Tryd.prog 26 #[.string s] w fun e w' => e = .returned (.bool (keyOk s)) ∧ w' = w := by
  have H := hid (isWord_any s w hs)
  unfold keyOk
  cases hw : isWordB s with
  | false =>
    rw [hw] at H
    go_enter Tryd.func26, Tryd.ntmps26
    go_wp2_with fail
    refine H.out.mono ?_
    rintro e w1 ⟨rfl, rfl⟩
    go_wp2_with fail
    go_ret
    exact ⟨rfl, rfl⟩
  | true =>
    rw [hw] at H
    by_cases h6 : s.size ≤ 6
    · have h6i : (s.size : Int) ≤ 6 := by omega
      have e6 : decide (s.size ≤ 6) = true := by simpa using h6
      go_enter Tryd.func26, Tryd.ntmps26
      go_wp2_with fail
      refine H.out.mono ?_
      rintro e w1 ⟨rfl, rfl⟩
      go_wp2_with fail
      go_ret
      exact ⟨ret_b (by rw [e6]; rfl), rfl⟩
    · have h6i : ¬ (s.size : Int) ≤ 6 := by omega
      have e6 : decide (s.size ≤ 6) = false := by simpa using h6
      go_enter Tryd.func26, Tryd.ntmps26
      go_wp2_with fail
      refine H.out.mono ?_
      rintro e w1 ⟨rfl, rfl⟩
      go_wp2_with fail
      go_ret
      exact ⟨ret_b (by rw [e6]; symm; simpa using h6i), rfl⟩
theorem kSmall_any (c : Nat) (w : World) : Calls Tryd.prog 43 #[.int .u8 c] w fun e w' => e = .returned (.bool (isSm c)) ∧ w = w' := by
  by_cases h1 : (97 : Int) ≤ (c : Int)
  · by_cases h2 : (c : Int) ≤ 122
    · have r := hid (show isSm c = true from isSm_iff.2 (by omega))
      go_enter Tryd.func43, Tryd.ntmps43
      go_wp2
      go_ret
      exact ⟨by rw [r.out]; rfl, rfl⟩
    · have r : isSm c = false := isSm_no.2 (by omega)
      go_enter Tryd.func43, Tryd.ntmps43
      go_wp2
      go_ret
      exact ⟨rfl, rfl⟩
  · have r : isSm c = false := isSm_no.2 (by omega)
    go_enter Tryd.func43, Tryd.ntmps43
    go_wp2
    go_ret
    exact ⟨rfl, rfl⟩
theorem kDigit_any (c : Nat) (w : World) : Calls Tryd.prog 42 #[.int .u8 c] w fun e w' => e = .returned (.bool (isDg c)) ∧ w = w' := by
  by_cases h1 : (48 : Int) ≤ (c : Int)
  · by_cases h2 : (c : Int) ≤ 57
    · have r := hid (show isDg c = true from isDg_iff.2 (by omega))
      go_enter Tryd.func42, Tryd.ntmps42
      go_wp2
      go_ret
      exact ⟨by rw [r.out]; rfl, rfl⟩
    · have r : isDg c = false := isDg_no.2 (by omega)
      go_enter Tryd.func42, Tryd.ntmps42
      go_wp2
      go_ret
      exact ⟨rfl, rfl⟩
  · have r : isDg c = false := isDg_no.2 (by omega)
    go_enter Tryd.func42, Tryd.ntmps42
    go_wp2
    go_ret
    exact ⟨rfl, rfl⟩
theorem key_word {s : ByteArray} (h : isWordB s = false) : keyOk s = false := by unfold keyOk; rw [h]; rfl
theorem below_bytes (w : World) (e : TypeId) (s : ByteArray) : Below w.heap.size w (Lib.bytesWorld w e s) :=
  ⟨rfl, rfl, rfl, by rw [Lib.bytesWorld_size]; omega, fun b hb => Lib.bytesWorld_at_old w e s b hb⟩

set_option maxHeartbeats 2000000 in
set_option maxRecDepth 100000 in
/-- The code's keys.Is. -/
theorem isKey_any (s : ByteArray) (w : World) (te : TypeId) (pe : Value) (hv : w.cell? ⟨0, 0, none⟩ = some pe) :
    Calls Tryd.prog 37 #[.string s] w fun e w' => e = .returned (.bool (keyOk s)) ∧ Below w.heap.size w w' := by
  clear hv
  by_cases h0 : 0 < s.size
  · have hne : (s.toList == []) = false := by
      rw [ByteArray.toList_eq]
      cases h : s.data.toList with
      | nil =>
        have h1 : s.data.toList.length = 0 := by rw [h]; rfl
        rw [Array.length_toList] at h1
        have e : s.data.size = s.size := rfl
        omega
      | cons _ _ => rfl
    have hne2 : ¬ s.toList = [] := by intro h; rw [h] at hne; cases hne
    have hne3 : s.toList.isEmpty = false := by simpa using hne2
    have h0i : (0 : Int) < (s.size : Int) := by omega
    by_cases h6 : 6 < s.size
    · have h6i : (6 : Int) < (s.size : Int) := by omega
      have HK := hid (key_long h6)
      go_enter Tryd.func37, Tryd.ntmps37
      go_wp2_with fail
      go_ret
      exact ⟨ret_b HK.out, Below.refl _ _⟩
    · have h6i : ¬ (6 : Int) < (s.size : Int) := by omega
      have HB0 := hid (bt_get h0)
      cases q0 : isDg (s[0]'h0).toNat with
      | true =>
        have HK := hid (key_word (wordB_first h0 (by rw [← HB0.out]; rw [isDg_iff] at q0; exact isSm_no.2 (by omega))))
        go_enter Tryd.func37, Tryd.ntmps37
        go_wp2_with (go_at_call 42; refine (kDigit_any _ _).mono ?_; rintro e w' ⟨rfl, rfl⟩)
        go_ret
        exact ⟨ret_b HK.out, Below.refl _ _⟩
      | false =>
        have hcv := Lib.run_convert_string_bytes w 9 55 5 s Tryd.underlying9 Tryd.underlying55 Tryd.underlying5
        generalize grownCap w s.size 0 5 = gc at hcv
        have HD0 : Hid (isDg (bt s 0) = false) := by show isDg (bt s 0) = false; rw [← HB0.out]; exact q0
        have HCB : Hid (∀ k (hk : k < s.size), (Lib.bytesWorld w 5 s).cell? ⟨w.heap.size, k, none⟩ = some (.int .u8 (((s[k]'hk).toNat : Nat) : Int))) := fun k hk => by
          rw [Lib.bytesWorld_cell w 5 s k hk]
          have e : s.data.toList.getD k 0 = s[k]'hk := by
            simp [List.getD, hk]
            rfl
          rw [e]
        have HBB := hid (below_bytes w 5 s)
        generalize Lib.bytesWorld w 5 s = wb at *
        go_enter Tryd.func37, Tryd.ntmps37
        go_wp2_with (go_at_call 42; refine (kDigit_any _ _).mono ?_; rintro e w' ⟨rfl, rfl⟩)
        go_loopg [4, 20] s.size (fun g _ t wr => ∃ k : Nat, k ≤ s.size ∧ s.size - k ≤ g ∧ t = .int .i64 k ∧ wr = wb ∧ Aside (∀ j, j < k → isWd (bt s j) = true))
        case atStart => exact ⟨0, Nat.zero_le _, by omega, rfl, rfl, fun j h => by omega⟩
        case round =>
          obtain ⟨k, hk, hg, rfl, rfl, A⟩ := hrel
          by_cases hlt : k < s.size
          · have hlti : (k : Int) < (s.size : Int) := by omega
            have hcell := HCB.out k hlt
            have HB := hid (bt_get hlt)
            cases q1 : isSm (s[k]'hlt).toNat with
            | true =>
              go_wp2_with (go_at_call 43; refine (kSmall_any _ _).mono ?_; rintro e w' ⟨rfl, rfl⟩)
              go_roundg (s.size - (k + 1))
              case measure => omega
              case rel =>
                refine ⟨k + 1, by omega, by omega, by go_num, rfl, (show Aside _ from fun j h2 => ?_)⟩
                by_cases e : j = k
                · subst e; rw [← HB.out]; simp [isWd, q1]
                · exact A.out j (by omega)
            | false =>
              cases q2 : isDg (s[k]'hlt).toNat with
              | true =>
                go_wp2_with (first | (go_at_call 43; refine (kSmall_any _ _).mono ?_; rintro e w' ⟨rfl, rfl⟩) | (go_at_call 42; refine (kDigit_any _ _).mono ?_; rintro e w' ⟨rfl, rfl⟩))
                go_roundg (s.size - (k + 1))
                case measure => omega
                case rel =>
                  refine ⟨k + 1, by omega, by omega, by go_num, rfl, (show Aside _ from fun j h2 => ?_)⟩
                  by_cases e : j = k
                  · subst e; rw [← HB.out]; simp [isWd, q1, q2]
                  · exact A.out j (by omega)
              | false =>
                have HK := hid (key_word (wordB_miss hlt (by rw [← HB.out]; simp [isWd, q1, q2])))
                go_wp2_with (first | (go_at_call 43; refine (kSmall_any _ _).mono ?_; rintro e w' ⟨rfl, rfl⟩) | (go_at_call 42; refine (kDigit_any _ _).mono ?_; rintro e w' ⟨rfl, rfl⟩))
                go_ret
                exact ⟨ret_b HK.out, HBB.out⟩
          · have hnlt : ¬ (k : Int) < (s.size : Int) := by omega
            have HK : Hid (keyOk s = true) := by
              have h1 : isWordB s = true := wordB_all h0 (by
                have := A.out 0 (by omega)
                unfold isWd at this
                rw [HD0.out, Bool.or_false] at this
                exact this) (fun j hj => A.out j (by omega))
              show keyOk s = true
              unfold keyOk
              rw [h1, decide_eq_true (show s.size ≤ 6 by omega)]
              rfl
            go_wp2_with fail
            go_ret
            exact ⟨ret_b HK.out, HBB.out⟩
  · have HK := hid (key_word (wordB_none h0))
    have hz : s.toList = [] := by rw [ByteArray.toList_eq]; exact List.length_eq_zero_iff.1 (by rw [Array.length_toList]; show s.size = 0; omega)
    have he : s.toList.isEmpty = true := by rw [hz]; rfl
    have hzz : (s.toList == []) = true := by rw [hz]; rfl
    go_enter Tryd.func37, Tryd.ntmps37
    go_wp2_with fail
    go_ret
    exact ⟨ret_b HK.out, Below.refl _ _⟩


end Go.Proofs.YtlkmciegpmpbbaaDoor
