/-
  What a key is: the plain part; walks of the code's isKey and of the reference's IsWord and IsKey.
  Which histories may be: the plain part; walks of the code's canOp, canEvent and Can and of the reference's MayOp.
  Walk of the code's canOp.
  Walks of the code's canEvent and Can.
  Walk of the reference's MayOp.
  Walk of the reference's Can.
  Small functions that pair calls: Writes, Thing, sameAsked, readsFit.
-/
import Derived.Test.YtjobdfgcgnpppaaDoorJ3
import Derived.Deep.RegionHeld3
import Derived.Lib.ConvBytes
import Derived.Test.YtjobdfgcgnpppaaDoorJ1
import Derived.Lib.Builder
import Derived.Test.YtjobdfgcgnpppaaDoorJ2
namespace Go.Proofs.YtjobdfgcgnpppaaDoor
set_option linter.unusedVariables false
set_option linter.unusedSimpArgs false
open Go.RowKit

theorem ret_b {b c : Bool} (h : c = b) : Ending.returned (.bool b) = .returned (.bool c) := by rw [h]

/-- A word, by its bytes. -/
def isWordL : List UInt8 → Bool
  | [] => false
  | b :: r => isSm b.toNat && r.all (fun x => isWd x.toNat)
def isWordB (s : ByteArray) : Bool := isWordL s.data.toList
def keyOk (s : ByteArray) : Bool := isWordB s && decide (s.size ≤ 6)

theorem all_bl (s : ByteArray) : s.data.toList = bl s 0 s.size := by
  have := extract_bl s 0 s.size (Nat.le_refl _)
  rwa [extract_all] at this

theorem word_form {s : ByteArray} (h : isWordB s = true) : ∃ b r, s.data.toList = b :: r ∧ isSm b.toNat = true ∧ ∀ x ∈ r, isWd x.toNat = true := by
  unfold isWordB at h
  cases hl : s.data.toList with
  | nil => rw [hl] at h; cases h
  | cons b r =>
    rw [hl] at h
    simp only [isWordL, Bool.and_eq_true, List.all_eq_true] at h
    exact ⟨b, r, rfl, h.1, h.2⟩
theorem word_of {s : ByteArray} {b : UInt8} {r : List UInt8} (h : s.data.toList = b :: r) (hb : isSm b.toNat = true) (hr : ∀ x ∈ r, isWd x.toNat = true) : isWordB s = true := by
  unfold isWordB; rw [h]
  simp only [isWordL, Bool.and_eq_true, List.all_eq_true]
  exact ⟨hb, hr⟩

theorem scan_word {s : ByteArray} (h : isWordB s = true) (hs : s.size ≤ 20000) : scanM s = .ok [((1 : Int), (0 : Int), s, (0 : Int))] := by
  obtain ⟨b, r, hl, hb, hr⟩ := word_form h
  have ht : TokOk ((1 : Int), (0 : Int), s, (0 : Int)) := .inl ⟨rfl, rfl, b, r, hl, hb, hr⟩
  obtain ⟨hne, h32, htok⟩ := tok_again (s := s) (i := 0) (r := []) ht (by rw [List.drop_zero]; simp) (.inr (.inr (.inl rfl)))
  have hsz : (tx ((1 : Int), (0 : Int), s, (0 : Int))).length = s.size := by show s.data.toList.length = _; simp
  have hpos : 0 < s.size := by rw [← hsz]; exact List.length_pos_iff.2 hne
  rw [hsz, Nat.zero_add] at htok
  rw [scanM_left hs, left_tok [] hpos h32 htok, left_end _ (by omega)]
  rfl

/-- A key, by what its text is scanned as. -/
theorem key_scanned {s : ByteArray} {l : List MTok} (h6 : s.size ≤ 6) (h : scanM s = .ok l) : keyOk s = (decide (l.length = 1) && ((l.getD 0 default).1 == 1 && ((l.getD 0 default).2.2.1.toList == s.toList))) := by
  have e6 : decide (s.size ≤ 6) = true := by simpa using h6
  unfold keyOk
  rw [e6, Bool.and_true]
  cases hw : isWordB s with
  | true =>
    have := scan_word hw (by omega)
    rw [h] at this
    cases this
    simp
  | false =>
    symm
    rw [Bool.eq_false_iff]
    intro hc
    simp only [Bool.and_eq_true, decide_eq_true_eq, beq_iff_eq] at hc
    obtain ⟨h1, h2, h3⟩ := hc
    match l, h1 with
    | [t], _ =>
      have hok := scanM_form h t (by simp)
      simp only [List.getD_cons_zero] at h2 h3
      rcases hok with ⟨_, _, b, r, e, hb, hr⟩ | ⟨e, _⟩ | ⟨e, _⟩ | ⟨e, _⟩
      · have hs : s.data.toList = b :: r := by
          rw [ByteArray.toList_eq, ByteArray.toList_eq] at h3
          rw [← h3]; exact e
        rw [word_of hs hb hr] at hw
        cases hw
      · omega
      · omega
      · omega
theorem key_bad {s : ByteArray} {q : Nat × Nat} (h6 : s.size ≤ 6) (h : scanM s = .error q) : keyOk s = false := by
  unfold keyOk
  cases hw : isWordB s with
  | false => rfl
  | true => rw [scan_word hw (by omega)] at h; cases h
theorem key_long {s : ByteArray} (h6 : 6 < s.size) : keyOk s = false := by
  unfold keyOk
  have : decide (s.size ≤ 6) = false := by simpa using h6
  rw [this, Bool.and_false]

theorem ToksIn.later {S T : Nat → Prop} {w w' : World} {v : Value} {l : List MTok} (h : ToksIn S w v l) (hb : Below w.heap.size w w') (hT : ∀ b, b < w.heap.size → S b → T b) : ToksIn T w' v l :=
  RowsIn.keep h (by omega) (fun _ _ hr => hr) (keeps_below hb) hT

theorem bl_zero {s : ByteArray} (h : 0 < s.size) : ∃ n, s.size = n + 1 ∧ s.data.toList = UInt8.ofNat (bt s 0) :: bl s 1 n := by
  obtain ⟨n, hn⟩ : ∃ n, s.size = n + 1 := ⟨s.size - 1, by omega⟩
  refine ⟨n, hn, ?_⟩
  rw [all_bl, hn]; rfl
theorem wordB_none {s : ByteArray} (h : ¬ 0 < s.size) : isWordB s = false := by
  unfold isWordB
  have : s.data.toList = [] := List.length_eq_zero_iff.1 (by rw [Array.length_toList]; show s.size = 0; omega)
  rw [this]; rfl
theorem wordB_first {s : ByteArray} (h : 0 < s.size) (h0 : isSm (bt s 0) = false) : isWordB s = false := by
  obtain ⟨n, _, e⟩ := bl_zero h
  unfold isWordB; rw [e]
  show (isSm (UInt8.ofNat (bt s 0)).toNat && _) = false
  rw [toNat_bt, h0]; rfl
theorem wordB_miss {s : ByteArray} {j : Nat} (h : j < s.size) (h0 : isWd (bt s j) = false) : isWordB s = false := by
  cases hw : isWordB s with
  | false => rfl
  | true =>
    obtain ⟨b, r, e, hb, hr⟩ := word_form hw
    have hj : s.data.toList[j]? = some (s.data.toList[j]'(by simpa using h)) := List.getElem?_eq_getElem _
    have hbt := bt_list hj
    have hm : s.data.toList[j]'(by simpa using h) ∈ b :: r := by rw [← e]; exact List.getElem_mem _
    rw [hbt] at h0
    rcases List.mem_cons.1 hm with e1 | e1
    · rw [e1] at h0; simp [isWd, hb] at h0
    · rw [hr _ e1] at h0; cases h0
theorem wordB_all {s : ByteArray} (h : 0 < s.size) (h0 : isSm (bt s 0) = true) (ha : ∀ j, j < s.size → isWd (bt s j) = true) : isWordB s = true := by
  obtain ⟨n, hn, e⟩ := bl_zero h
  refine word_of e (by rw [toNat_bt]; exact h0) (fun x hx => ?_)
  obtain ⟨j, hj, ex⟩ := mem_bl hx
  rw [ex]; exact ha _ (by omega)

set_option maxHeartbeats 1000000 in
set_option maxRecDepth 100000 in
/-- The reference's IsWord. -/
theorem isWord_any (s : ByteArray) (w : World) (hs : s.size ≤ 9223372036854775806) :
    Calls Tryd.prog 58 #[.string s] w fun e w' => e = .returned (.bool (isWordB s)) ∧ w' = w := by
  by_cases h0 : 0 < s.size
  · have hne : (s.toList == []) = false := by
      rw [ByteArray.toList_eq]
      cases h : s.data.toList with
      | nil =>
        have h1 : s.data.toList.length = 0 := by rw [h]; rfl
        rw [Array.length_toList] at h1
        have e : s.data.size = s.size := rfl
        omega
      | cons _ _ => rfl
    have hne2 : ¬ s.toList = [] := by intro h; rw [h] at hne; cases hne
    have hne3 : s.toList.isEmpty = false := by simpa using hne2
    have h0i : (0 : Int) < (s.size : Int) := by omega
    have HB0 := hid (bt_get h0)
    cases q0 : isSm (s[0]'h0).toNat with
    | false =>
      have HK := hid (wordB_first h0 (by rw [← HB0.out]; exact q0))
      go_enter Tryd.func58, Tryd.ntmps58
      go_wp2_with (go_at_call 65; refine (lt_c _ _).mono ?_; rintro e w' ⟨rfl, rfl⟩)
      go_ret
      exact ⟨ret_b HK.out, rfl⟩
    | true =>
      have HK0 : Hid (isSm (bt s 0) = true) := by show isSm (bt s 0) = true; rw [← HB0.out]; exact q0
      go_enter Tryd.func58, Tryd.ntmps58
      go_wp2_with (go_at_call 65; refine (lt_c _ _).mono ?_; rintro e w' ⟨rfl, rfl⟩)
      go_loopg [3] s.size (fun g t wr => ∃ k : Nat, k ≤ s.size ∧ s.size - k ≤ g ∧ t = .int .i64 k ∧ wr = w ∧ Aside (∀ j, j < k → isWd (bt s j) = true))
      case atStart => exact ⟨0, Nat.zero_le _, by omega, rfl, rfl, fun j h => by omega⟩
      case round =>
        obtain ⟨k, hk, hg, rfl, rfl, A⟩ := hrel
        by_cases hlt : k < s.size
        · have hlti : (k : Int) < (s.size : Int) := by omega
          have HB := hid (bt_get hlt)
          cases q1 : isSm (s[k]'hlt).toNat with
          | true =>
            go_wp2_with (go_at_call 65; refine (lt_c _ _).mono ?_; rintro e w' ⟨rfl, rfl⟩)
            go_roundg (s.size - (k + 1))
            case measure => omega
            case rel =>
              refine ⟨k + 1, by omega, by omega, by go_num, rfl, (show Aside _ from fun j h2 => ?_)⟩
              by_cases e : j = k
              · subst e; rw [← HB.out]; simp [isWd, q1]
              · exact A.out j (by omega)
          | false =>
            cases q2 : isDg (s[k]'hlt).toNat with
            | true =>
              go_wp2_with (first | (go_at_call 65; refine (lt_c _ _).mono ?_; rintro e w' ⟨rfl, rfl⟩) | (go_at_call 66; refine (dg_c _ _).mono ?_; rintro e w' ⟨rfl, rfl⟩))
              go_roundg (s.size - (k + 1))
              case measure => omega
              case rel =>
                refine ⟨k + 1, by omega, by omega, by go_num, rfl, (show Aside _ from fun j h2 => ?_)⟩
                by_cases e : j = k
                · subst e; rw [← HB.out]; simp [isWd, q1, q2]
                · exact A.out j (by omega)
            | false =>
              have HK := hid (wordB_miss hlt (by rw [← HB.out]; simp [isWd, q1, q2]))
              go_wp2_with (first | (go_at_call 65; refine (lt_c _ _).mono ?_; rintro e w' ⟨rfl, rfl⟩) | (go_at_call 66; refine (dg_c _ _).mono ?_; rintro e w' ⟨rfl, rfl⟩))
              go_ret
              exact ⟨ret_b HK.out, rfl⟩
        · have hlti : ¬ (k : Int) < (s.size : Int) := by omega
          have HK := hid (wordB_all h0 HK0.out (fun j hj => A.out j (by omega)))
          go_wp2_with fail
          go_ret
          exact ⟨ret_b HK.out, rfl⟩
  · have HK := hid (wordB_none h0)
    have hz : s.toList = [] := by rw [ByteArray.toList_eq]; exact List.length_eq_zero_iff.1 (by rw [Array.length_toList]; show s.size = 0; omega)
    have he : s.toList.isEmpty = true := by rw [hz]; rfl
    go_enter Tryd.func58, Tryd.ntmps58
    go_wp2_with fail
    go_ret
    exact ⟨ret_b HK.out, rfl⟩

/-- The reference's IsKey. -/
theorem refKey_any (s : ByteArray) (w : World) (hs : s.size ≤ 9223372036854775806) :
    Calls Tryd.prog 47 #[.string s] w fun e w' => e = .returned (.bool (keyOk s)) ∧ w' = w := by
  have H := hid (isWord_any s w hs)
  unfold keyOk
  cases hw : isWordB s with
  | false =>
    rw [hw] at H
    go_enter Tryd.func47, Tryd.ntmps47
    go_wp2_with fail
    refine H.out.mono ?_
    rintro e w1 ⟨rfl, rfl⟩
    go_wp2_with fail
    go_ret
    exact ⟨rfl, rfl⟩
  | true =>
    rw [hw] at H
    by_cases h6 : s.size ≤ 6
    · have h6i : (s.size : Int) ≤ 6 := by omega
      have e6 : decide (s.size ≤ 6) = true := by simpa using h6
      go_enter Tryd.func47, Tryd.ntmps47
      go_wp2_with fail
      refine H.out.mono ?_
      rintro e w1 ⟨rfl, rfl⟩
      go_wp2_with fail
      go_ret
      exact ⟨ret_b (by rw [e6]; rfl), rfl⟩
    · have h6i : ¬ (s.size : Int) ≤ 6 := by omega
      have e6 : decide (s.size ≤ 6) = false := by simpa using h6
      go_enter Tryd.func47, Tryd.ntmps47
      go_wp2_with fail
      refine H.out.mono ?_
      rintro e w1 ⟨rfl, rfl⟩
      go_wp2_with fail
      go_ret
      exact ⟨ret_b (by rw [e6]; symm; simpa using h6i), rfl⟩
theorem kSmall_any (c : Nat) (w : World) : Calls Tryd.prog 68 #[.int .u8 c] w fun e w' => e = .returned (.bool (isSm c)) ∧ w = w' := by
  by_cases h1 : (97 : Int) ≤ (c : Int)
  · by_cases h2 : (c : Int) ≤ 122
    · have r := hid (show isSm c = true from isSm_iff.2 (by omega))
      go_enter Tryd.func68, Tryd.ntmps68
      go_wp2
      go_ret
      exact ⟨by rw [r.out]; rfl, rfl⟩
    · have r : isSm c = false := isSm_no.2 (by omega)
      go_enter Tryd.func68, Tryd.ntmps68
      go_wp2
      go_ret
      exact ⟨rfl, rfl⟩
  · have r : isSm c = false := isSm_no.2 (by omega)
    go_enter Tryd.func68, Tryd.ntmps68
    go_wp2
    go_ret
    exact ⟨rfl, rfl⟩
theorem kDigit_any (c : Nat) (w : World) : Calls Tryd.prog 67 #[.int .u8 c] w fun e w' => e = .returned (.bool (isDg c)) ∧ w = w' := by
  by_cases h1 : (48 : Int) ≤ (c : Int)
  · by_cases h2 : (c : Int) ≤ 57
    · have r := hid (show isDg c = true from isDg_iff.2 (by omega))
      go_enter Tryd.func67, Tryd.ntmps67
      go_wp2
      go_ret
      exact ⟨by rw [r.out]; rfl, rfl⟩
    · have r : isDg c = false := isDg_no.2 (by omega)
      go_enter Tryd.func67, Tryd.ntmps67
      go_wp2
      go_ret
      exact ⟨rfl, rfl⟩
  · have r : isDg c = false := isDg_no.2 (by omega)
    go_enter Tryd.func67, Tryd.ntmps67
    go_wp2
    go_ret
    exact ⟨rfl, rfl⟩
theorem key_word {s : ByteArray} (h : isWordB s = false) : keyOk s = false := by unfold keyOk; rw [h]; rfl
theorem below_bytes (w : World) (e : TypeId) (s : ByteArray) : Below w.heap.size w (Lib.bytesWorld w e s) :=
  ⟨rfl, rfl, rfl, by rw [Lib.bytesWorld_size]; omega, fun b hb => Lib.bytesWorld_at_old w e s b hb⟩

set_option maxHeartbeats 2000000 in
set_option maxRecDepth 100000 in
/-- The code's keys.Is. -/
theorem isKey_any (s : ByteArray) (w : World) (te : TypeId) (pe : Value) (hv : w.cell? ⟨0, 0, none⟩ = some pe) :
    Calls Tryd.prog 59 #[.string s] w fun e w' => e = .returned (.bool (keyOk s)) ∧ Below w.heap.size w w' := by
  clear hv
  by_cases h0 : 0 < s.size
  · have hne : (s.toList == []) = false := by
      rw [ByteArray.toList_eq]
      cases h : s.data.toList with
      | nil =>
        have h1 : s.data.toList.length = 0 := by rw [h]; rfl
        rw [Array.length_toList] at h1
        have e : s.data.size = s.size := rfl
        omega
      | cons _ _ => rfl
    have hne2 : ¬ s.toList = [] := by intro h; rw [h] at hne; cases hne
    have hne3 : s.toList.isEmpty = false := by simpa using hne2
    have h0i : (0 : Int) < (s.size : Int) := by omega
    by_cases h6 : 6 < s.size
    · have h6i : (6 : Int) < (s.size : Int) := by omega
      have HK := hid (key_long h6)
      go_enter Tryd.func59, Tryd.ntmps59
      go_wp2_with fail
      go_ret
      exact ⟨ret_b HK.out, Below.refl _ _⟩
    · have h6i : ¬ (6 : Int) < (s.size : Int) := by omega
      have HB0 := hid (bt_get h0)
      cases q0 : isDg (s[0]'h0).toNat with
      | true =>
        have HK := hid (key_word (wordB_first h0 (by rw [← HB0.out]; rw [isDg_iff] at q0; exact isSm_no.2 (by omega))))
        go_enter Tryd.func59, Tryd.ntmps59
        go_wp2_with (go_at_call 67; refine (kDigit_any _ _).mono ?_; rintro e w' ⟨rfl, rfl⟩)
        go_ret
        exact ⟨ret_b HK.out, Below.refl _ _⟩
      | false =>
        have hcv := Lib.run_convert_string_bytes w 9 123 5 s Tryd.underlying9 Tryd.underlying123 Tryd.underlying5
        generalize grownCap w s.size 0 5 = gc at hcv
        have HD0 : Hid (isDg (bt s 0) = false) := by show isDg (bt s 0) = false; rw [← HB0.out]; exact q0
        have HCB : Hid (∀ k (hk : k < s.size), (Lib.bytesWorld w 5 s).cell? ⟨w.heap.size, k, none⟩ = some (.int .u8 (((s[k]'hk).toNat : Nat) : Int))) := fun k hk => by
          rw [Lib.bytesWorld_cell w 5 s k hk]
          have e : s.data.toList.getD k 0 = s[k]'hk := by
            simp [List.getD, hk]
            rfl
          rw [e]
        have HBB := hid (below_bytes w 5 s)
        generalize Lib.bytesWorld w 5 s = wb at *
        go_enter Tryd.func59, Tryd.ntmps59
        go_wp2_with (go_at_call 67; refine (kDigit_any _ _).mono ?_; rintro e w' ⟨rfl, rfl⟩)
        go_loopg [4, 20] s.size (fun g _ t wr => ∃ k : Nat, k ≤ s.size ∧ s.size - k ≤ g ∧ t = .int .i64 k ∧ wr = wb ∧ Aside (∀ j, j < k → isWd (bt s j) = true))
        case atStart => exact ⟨0, Nat.zero_le _, by omega, rfl, rfl, fun j h => by omega⟩
        case round =>
          obtain ⟨k, hk, hg, rfl, rfl, A⟩ := hrel
          by_cases hlt : k < s.size
          · have hlti : (k : Int) < (s.size : Int) := by omega
            have hcell := HCB.out k hlt
            have HB := hid (bt_get hlt)
            cases q1 : isSm (s[k]'hlt).toNat with
            | true =>
              go_wp2_with (go_at_call 68; refine (kSmall_any _ _).mono ?_; rintro e w' ⟨rfl, rfl⟩)
              go_roundg (s.size - (k + 1))
              case measure => omega
              case rel =>
                refine ⟨k + 1, by omega, by omega, by go_num, rfl, (show Aside _ from fun j h2 => ?_)⟩
                by_cases e : j = k
                · subst e; rw [← HB.out]; simp [isWd, q1]
                · exact A.out j (by omega)
            | false =>
              cases q2 : isDg (s[k]'hlt).toNat with
              | true =>
                go_wp2_with (first | (go_at_call 68; refine (kSmall_any _ _).mono ?_; rintro e w' ⟨rfl, rfl⟩) | (go_at_call 67; refine (kDigit_any _ _).mono ?_; rintro e w' ⟨rfl, rfl⟩))
                go_roundg (s.size - (k + 1))
                case measure => omega
                case rel =>
                  refine ⟨k + 1, by omega, by omega, by go_num, rfl, (show Aside _ from fun j h2 => ?_)⟩
                  by_cases e : j = k
                  · subst e; rw [← HB.out]; simp [isWd, q1, q2]
                  · exact A.out j (by omega)
              | false =>
                have HK := hid (key_word (wordB_miss hlt (by rw [← HB.out]; simp [isWd, q1, q2])))
                go_wp2_with (first | (go_at_call 68; refine (kSmall_any _ _).mono ?_; rintro e w' ⟨rfl, rfl⟩) | (go_at_call 67; refine (kDigit_any _ _).mono ?_; rintro e w' ⟨rfl, rfl⟩))
                go_ret
                exact ⟨ret_b HK.out, HBB.out⟩
          · have hnlt : ¬ (k : Int) < (s.size : Int) := by omega
            have HK : Hid (keyOk s = true) := by
              have h1 : isWordB s = true := wordB_all h0 (by
                have := A.out 0 (by omega)
                unfold isWd at this
                rw [HD0.out, Bool.or_false] at this
                exact this) (fun j hj => A.out j (by omega))
              show keyOk s = true
              unfold keyOk
              rw [h1, decide_eq_true (show s.size ≤ 6 by omega)]
              rfl
            go_wp2_with fail
            go_ret
            exact ⟨ret_b HK.out, HBB.out⟩
  · have HK := hid (key_word (wordB_none h0))
    have hz : s.toList = [] := by rw [ByteArray.toList_eq]; exact List.length_eq_zero_iff.1 (by rw [Array.length_toList]; show s.size = 0; omega)
    have he : s.toList.isEmpty = true := by rw [hz]; rfl
    have hzz : (s.toList == []) = true := by rw [hz]; rfl
    go_enter Tryd.func59, Tryd.ntmps59
    go_wp2_with fail
    go_ret
    exact ⟨ret_b HK.out, Below.refl _ _⟩


end Go.Proofs.YtjobdfgcgnpppaaDoor
namespace Go.Proofs.YtjobdfgcgnpppaaDoor
set_option linter.unusedVariables false
set_option linter.unusedSimpArgs false
open Go.RowKit

abbrev len (o : MOp) : Int := ((o.list.length : Nat) : Int)
/-- An operation may be, its key left aside. -/
def opOk (o : MOp) : Bool :=
  if o.kind == 1 || o.kind == 3 then (len o == 0) && (!o.has && !o.nl)
  else if o.kind == 2 then (o.value == 0) && (!o.nl && (decide (len o ≤ 40) && (o.has || (len o == 0))))
  else if o.kind == 4 then (len o == 0) && ((o.has || !o.nl) && ((o.has && !o.nl) || (o.value == 0)))
  else false

theorem len40 (l : List Int) : (((l.length : Nat) : Int) ≤ 40 ∧ Hid (decide (((l.length : Nat) : Int) ≤ 40) = true)) ∨ (¬ ((l.length : Nat) : Int) ≤ 40 ∧ Hid (decide (((l.length : Nat) : Int) ≤ 40) = false)) := by
  by_cases h : ((l.length : Nat) : Int) ≤ 40
  · exact .inl ⟨h, decide_eq_true h⟩
  · exact .inr ⟨h, decide_eq_false h⟩

end Go.Proofs.YtjobdfgcgnpppaaDoor
namespace Go.Proofs.YtjobdfgcgnpppaaDoor
set_option linter.unusedVariables false
set_option linter.unusedSimpArgs false
open Go.RowKit

set_option maxHeartbeats 4000000 in
set_option maxRecDepth 100000 in
/-- The code's canOp. -/
theorem canOp_any {S : Nat → Prop} (o : MOp) (lv : Value) (w : World) (h : IntsIn S w lv o.list) :
    Calls Tryd.prog 60 #[.agg #[.int .i64 o.kind, .string o.key, .int .i64 o.value, lv, .bool o.has, .bool o.nl]] w fun e w' => e = .returned (.bool (opOk o)) ∧ Below w.heap.size w w' := by
  obtain ⟨k, s, v, l, hs, nl⟩ := o
  obtain ⟨a1, c1, rfl, -⟩ := id h
  clear h
  simp only [MOp.kind, MOp.key, MOp.value, MOp.list, MOp.has, MOp.nl] at *
  have HB : Hid (Below w.heap.size w (w.alloc (.cells #[.int .i64 k, .string s, .int .i64 v, .slice a1 l.length c1, .bool hs, .bool nl] 76))) := (Below.refl _ w).alloc (Nat.le_refl _) _
  by_cases k1 : k = 1
  · subst k1
    cases q1 : (((l.length : Nat) : Int) == 0) <;> cases hs <;> cases nl <;>
    · go_enter Tryd.func60, Tryd.ntmps60
      go_wp2_with fail
      go_ret
      exact ⟨ret_b (by simp only [opOk, len, MOp.kind, MOp.value, MOp.list, MOp.has, MOp.nl, q1]; rfl), HB.out⟩
  by_cases k3 : k = 3
  · subst k3
    cases q1 : (((l.length : Nat) : Int) == 0) <;> cases hs <;> cases nl <;>
    · go_enter Tryd.func60, Tryd.ntmps60
      go_wp2_with fail
      go_ret
      exact ⟨ret_b (by simp only [opOk, len, MOp.kind, MOp.value, MOp.list, MOp.has, MOp.nl, q1]; rfl), HB.out⟩
  by_cases k2 : k = 2
  · subst k2
    cases q2 : (v == 0) <;> cases q1 : (((l.length : Nat) : Int) == 0) <;> rcases len40 l with ⟨q4, Q5⟩ | ⟨q4, Q5⟩ <;> cases hs <;> cases nl <;>
    · go_enter Tryd.func60, Tryd.ntmps60
      go_wp2_with fail
      go_ret
      exact ⟨ret_b (by simp only [opOk, len, MOp.kind, MOp.value, MOp.list, MOp.has, MOp.nl, q1, q2, Q5.out]; rfl), HB.out⟩
  by_cases k4 : k = 4
  · subst k4
    cases q2 : (v == 0) <;> cases q1 : (((l.length : Nat) : Int) == 0) <;> cases hs <;> cases nl <;>
    · go_enter Tryd.func60, Tryd.ntmps60
      go_wp2_with fail
      go_ret
      exact ⟨ret_b (by simp only [opOk, len, MOp.kind, MOp.value, MOp.list, MOp.has, MOp.nl, q1, q2]; rfl), HB.out⟩
  · have e1 : (k == 1) = false := by simpa using k1
    have e2 : (k == 2) = false := by simpa using k2
    have e3 : (k == 3) = false := by simpa using k3
    have e4 : (k == 4) = false := by simpa using k4
    have R : Hid (opOk (k, s, v, l, hs, nl) = false) := by show opOk _ = _; simp [opOk, MOp.kind, e1, e2, e3, e4]
    go_enter Tryd.func60, Tryd.ntmps60
    go_wp2_with fail
    go_ret
    exact ⟨ret_b R.out, HB.out⟩
end Go.Proofs.YtjobdfgcgnpppaaDoor
namespace Go.Proofs.YtjobdfgcgnpppaaDoor
set_option linter.unusedVariables false
set_option linter.unusedSimpArgs false
open Go.RowKit

/-- An event's own numbers may be. -/
abbrev evHead (e : MEv) : Prop := 1 ≤ e.kind ∧ e.kind ≤ 4 ∧ 0 ≤ e.proc ∧ e.proc ≤ 99 ∧ 1 ≤ e.ops.length ∧ e.ops.length ≤ 8
def opKey (o : MOp) : Bool := keyOk o.key && opOk o
def evOk (e : MEv) : Bool := decide (evHead e) && e.ops.all opKey
/-- A history may be. -/
def canM (l : List MEv) : Bool := decide (l.length ≤ 300) && l.all evOk

theorem ev_no {e : MEv} (h : ¬ evHead e) : evOk e = false := by unfold evOk; rw [decide_eq_false h]; rfl
theorem all_miss {α : Type} [Inhabited α] {p : α → Bool} : ∀ {l : List α} {k : Nat}, k < l.length → p (l.getD k default) = false → l.all p = false
  | [], k, h, _ => by simp at h
  | x :: l, 0, _, h => by simp at h; simp [h]
  | x :: l, k + 1, hk, h => by
    have := all_miss (p := p) (l := l) (k := k) (by simpa using hk) (by simpa using h)
    rw [List.all_cons, this, Bool.and_false]
theorem all_hit {α : Type} [Inhabited α] {p : α → Bool} : ∀ {l : List α}, (∀ k, k < l.length → p (l.getD k default) = true) → l.all p = true
  | [], _ => rfl
  | x :: l, h => by
    have h0 := h 0 (by simp)
    have := all_hit (p := p) (l := l) (fun k hk => by simpa using h (k + 1) (by simpa using hk))
    rw [List.all_cons, this]
    simpa using h0
theorem ev_miss {e : MEv} {k : Nat} (hk : k < e.ops.length) (h : opKey (e.ops.getD k default) = false) : evOk e = false := by
  unfold evOk; rw [all_miss hk h, Bool.and_false]
theorem ev_hit {e : MEv} (h : evHead e) (ha : ∀ k, k < e.ops.length → opKey (e.ops.getD k default) = true) : evOk e = true := by
  unfold evOk; rw [decide_eq_true h, all_hit ha]; rfl

theorem new_cells (w : World) (cs : Array Value) (t : TypeId) (j : Nat) : (w.alloc (.cells cs t)).cell? ⟨w.heap.size, j, none⟩ = cs[j]? := Lib.cell_of_heap (heap_alloc_new w _) j
theorem below_box (w : World) (o : Obj) : Below w.heap.size w (w.alloc o) := (Below.refl _ _).alloc (Nat.le_refl _) _

/-- The code's isProcess. -/
theorem isProcess_any (n : Int) (w : World) : Calls Tryd.prog 48 #[.int .i64 n] w fun e w' => e = .returned (.bool (decide (0 ≤ n) && decide (n ≤ 99))) ∧ w = w' := by
  by_cases h0 : 0 ≤ n
  · by_cases h1 : n ≤ 99
    · go_enter Tryd.func48, Tryd.ntmps48
      go_wp2_with fail
      go_ret
      exact ⟨ret_b (by simp [h0, h1]), rfl⟩
    · go_enter Tryd.func48, Tryd.ntmps48
      go_wp2_with fail
      go_ret
      exact ⟨ret_b (by simp [h0, h1]), rfl⟩
  · go_enter Tryd.func48, Tryd.ntmps48
    go_wp2_with fail
    go_ret
    exact ⟨ret_b (by rw [decide_eq_false (show ¬ 0 ≤ n by omega)]; rfl), rfl⟩

/-- The code's ops.Can. -/
theorem opCan_any {S : Nat → Prop} (o : MOp) (lv : Value) (w : World) (te : TypeId) (pe : Value) (hv : w.cell? ⟨0, 0, none⟩ = some pe) (h : IntsIn S w lv o.list) :
    Calls Tryd.prog 49 #[.agg #[.int .i64 o.kind, .string o.key, .int .i64 o.value, lv, .bool o.has, .bool o.nl]] w fun e w' => e = .returned (.bool (opKey o)) ∧ Below w.heap.size w w' := by
  obtain ⟨al1, cl1, rfl, -⟩ := id h
  have HVB : Hid (∀ o, (w.alloc o).cell? ⟨0, 0, none⟩ = some pe) := fun o => Lib.cell?_alloc_some _ hv
  have J1 := hid h
  clear h hv
  go_enter Tryd.func49, Tryd.ntmps49
  go_wp2_with fail
  refine (isKey_any o.key _ te pe (HVB.out _)).mono ?_
  rintro e w5 ⟨rfl, b5⟩
  have c0 := (b5.cell (p := ⟨w.heap.size, 0, none⟩) (by simp)).trans (new_cells w _ 76 0)
  have c1 := (b5.cell (p := ⟨w.heap.size, 1, none⟩) (by simp)).trans (new_cells w _ 76 1)
  have c2 := (b5.cell (p := ⟨w.heap.size, 2, none⟩) (by simp)).trans (new_cells w _ 76 2)
  have c3 := (b5.cell (p := ⟨w.heap.size, 3, none⟩) (by simp)).trans (new_cells w _ 76 3)
  have c4 := (b5.cell (p := ⟨w.heap.size, 4, none⟩) (by simp)).trans (new_cells w _ 76 4)
  have c5 := (b5.cell (p := ⟨w.heap.size, 5, none⟩) (by simp)).trans (new_cells w _ 76 5)
  simp only [List.getElem?_toArray, List.getElem?_cons_zero, List.getElem?_cons_succ] at c0 c1 c2 c3 c4 c5
  have b5' : Below w.heap.size w w5 := (below_box w _).trans (b5.mono (by simp))
  have HB5 := hid b5'
  have J5 := hid (J1.out.keep (T := Any) (keeps_below b5') (fun _ _ _ => trivial))
  clear b5 b5'
  cases q1 : keyOk o.key with
  | false =>
    go_wp2_with fail
    go_ret
    exact ⟨ret_b (by unfold opKey; rw [q1]; rfl), HB5.out⟩
  | true =>
    go_wp2_with fail
    refine (canOp_any o _ _ J5.out).mono ?_
    rintro e w6 ⟨rfl, b6⟩
    have HB6 : Hid (Below w.heap.size w w6) := HB5.out.trans (b6.mono HB5.out.size)
    clear b6 c0 c1 c2 c3 c4 c5
    go_wp2_with fail
    go_ret
    exact ⟨ret_b (by unfold opKey; rw [q1]; rfl), HB6.out⟩

set_option maxHeartbeats 4000000 in
set_option maxRecDepth 100000 in
/-- The code's canEvent. -/
theorem canEvent_any {S : Nat → Prop} (e : MEv) (ov : Value) (w : World) (te : TypeId) (pe : Value) (hv : w.cell? ⟨0, 0, none⟩ = some pe) (h : OpsIn S w ov e.ops) :
    Calls Tryd.prog 39 #[.agg #[.int .i64 e.kind, .int .i64 e.proc, ov]] w fun en w' => en = .returned (.bool (evOk e)) ∧ Below w.heap.size w w' := by
  have h1w : 0 < w.heap.size := World.block_lt_of_cell? _ _ hv
  have HV := hid hv
  clear hv
  obtain ⟨ek, ep, xs⟩ := e
  obtain ⟨a1, c1, rfl, hbig, k0⟩ := RowsIn.cells h (by omega)
  clear h
  simp only [MEv.kind, MEv.proc, MEv.ops] at *
  have HC := hid k0
  clear k0
  by_cases f1 : ek < 1
  · have N := hid (ev_no (e := (ek, ep, xs)) (fun h => by have := h.1; simp only [MEv.kind] at this; omega))
    go_enter Tryd.func39, Tryd.ntmps39
    go_wp2_with fail
    go_ret
    exact ⟨ret_b N.out, below_box _ _⟩
  by_cases f2 : 4 < ek
  · have N := hid (ev_no (e := (ek, ep, xs)) (fun h => by have := h.2.1; simp only [MEv.kind] at this; omega))
    go_enter Tryd.func39, Tryd.ntmps39
    go_wp2_with fail
    go_ret
    exact ⟨ret_b N.out, below_box _ _⟩
  cases q3 : (decide (0 ≤ ep) && decide (ep ≤ 99)) with
  | false =>
    have N := hid (ev_no (e := (ek, ep, xs)) (fun h => by have h3 := h.2.2.1; have h4 := h.2.2.2.1; simp only [MEv.proc] at h3 h4; simp [h3, h4] at q3))
    have IP := fun W => isProcess_any ep W
    rw [q3] at IP
    go_enter Tryd.func39, Tryd.ntmps39
    go_wp2_with (go_at_call 48; refine (IP _).mono ?_; rintro e w' ⟨rfl, rfl⟩)
    go_ret
    exact ⟨ret_b N.out, below_box _ _⟩
  | true =>
  have IP := fun W => isProcess_any ep W
  rw [q3] at IP
  simp only [Bool.and_eq_true, decide_eq_true_eq] at q3
  by_cases f5 : xs.length < 1
  · have f5i : ((xs.length : Nat) : Int) < 1 := by omega
    have N := hid (ev_no (e := (ek, ep, xs)) (fun h => by have := h.2.2.2.2.1; simp only [MEv.ops] at this; omega))
    go_enter Tryd.func39, Tryd.ntmps39
    go_wp2_with (go_at_call 48; refine (IP _).mono ?_; rintro e w' ⟨rfl, rfl⟩)
    go_ret
    exact ⟨ret_b N.out, below_box _ _⟩
  by_cases f6 : 8 < xs.length
  · have f5i : ¬ ((xs.length : Nat) : Int) < 1 := by omega
    have f6i : 8 < ((xs.length : Nat) : Int) := by omega
    have N := hid (ev_no (e := (ek, ep, xs)) (fun h => by have := h.2.2.2.2.2; simp only [MEv.ops] at this; omega))
    go_enter Tryd.func39, Tryd.ntmps39
    go_wp2_with (go_at_call 48; refine (IP _).mono ?_; rintro e w' ⟨rfl, rfl⟩)
    go_ret
    exact ⟨ret_b N.out, below_box _ _⟩
  have f5i : ¬ ((xs.length : Nat) : Int) < 1 := by omega
  have f6i : ¬ 8 < ((xs.length : Nat) : Int) := by omega
  have HH : Hid (evHead (ek, ep, xs)) := ⟨by simp only [MEv.kind]; omega, by simp only [MEv.kind]; omega, q3.1, q3.2, by simp only [MEv.ops]; omega, by simp only [MEv.ops]; omega⟩
  clear f5 f6 q3
  go_enter Tryd.func39, Tryd.ntmps39
  go_wp2_with (go_at_call 48; refine (IP _).mono ?_; rintro e w' ⟨rfl, rfl⟩)
  clear IP f1 f2 f5i f6i
  go_loopg [32] xs.length (fun g i wr => ∃ k : Nat, k ≤ xs.length ∧ xs.length - k ≤ g ∧ i = .int .i64 k ∧ Aside (Below w.heap.size w wr) ∧ Aside (∀ j, j < k → opKey (xs.getD j default) = true))
  case atStart => exact ⟨0, Nat.zero_le _, by omega, rfl, below_box _ _, fun j hj => absurd hj (Nat.not_lt_zero _)⟩
  case round =>
    obtain ⟨k, hk, hg, rfl, BW, A⟩ := hrel
    by_cases hlt : k < xs.length
    · have hlti : (k : Int) < (xs.length : Int) := by omega
      obtain ⟨b1, o1, cs1, rfl, hb1, _, ⟨l1, rfl, i1⟩, k1⟩ := HC.out k hlt
      have d0 : wr.cell? ⟨b1, o1 + k * 6, none⟩ = _ := (BW.out.cell (p := ⟨b1, o1 + k * 6, none⟩) hb1).trans (k1 0 _ rfl)
      have d1 := (BW.out.cell (p := ⟨b1, o1 + k * 6 + 1, none⟩) hb1).trans (k1 1 _ rfl)
      have d2 := (BW.out.cell (p := ⟨b1, o1 + k * 6 + 2, none⟩) hb1).trans (k1 2 _ rfl)
      have d3 := (BW.out.cell (p := ⟨b1, o1 + k * 6 + 3, none⟩) hb1).trans (k1 3 _ rfl)
      have d4 := (BW.out.cell (p := ⟨b1, o1 + k * 6 + 4, none⟩) hb1).trans (k1 4 _ rfl)
      have d5 := (BW.out.cell (p := ⟨b1, o1 + k * 6 + 5, none⟩) hb1).trans (k1 5 _ rfl)
      clear k1
      have hsz := BW.out.size
      have j1 := i1.keep (T := Any) (keeps_below BW.out) (fun _ _ _ => trivial)
      clear i1
      generalize hX : xs.getD k default = X at *
      have HX' := hid hX
      clear hX
      obtain ⟨al1, cl1, rfl, -⟩ := id j1
      have J1 := hid j1
      clear j1
      have hvr : wr.cell? ⟨0, 0, none⟩ = some pe := (BW.out.cell (p := ⟨0, 0, none⟩) h1w).trans HV.out
      have HVB : Hid (∀ o, (wr.alloc o).cell? ⟨0, 0, none⟩ = some pe) := fun o => Lib.cell?_alloc_some _ hvr
      clear hvr
      go_wp2_with fail
      have J5 : Hid (∀ o, IntsIn Any (wr.alloc o) _ X.list) := fun o => J1.out.keep (T := Any) (keeps_below (below_box wr o)) (fun _ _ _ => trivial)
      refine (opCan_any X _ _ te pe (HVB.out _) (J5.out _)).mono ?_
      rintro e w6 ⟨rfl, b6⟩
      have HB6 : Hid (Below w.heap.size w w6) := BW.out.trans (((below_box wr _).trans (b6.mono (by simp))).mono hsz)
      clear b6
      cases q2 : opKey X with
      | false =>
        have N := hid (ev_miss (e := (ek, ep, xs)) (k := k) hlt (by show opKey (xs.getD k default) = false; rw [HX'.out]; exact q2))
        go_wp2_with fail
        go_ret
        exact ⟨ret_b N.out, HB6.out⟩
      | true =>
        go_wp2_with fail
        go_roundg (xs.length - (k + 1))
        case measure => omega
        case rel =>
          refine ⟨k + 1, by omega, by omega, by go_num, HB6.out, (show Aside _ from fun j hj => ?_)⟩
          by_cases e : j = k
          · subst e; rw [HX'.out]; exact q2
          · exact A.out j (by omega)
    · have N := hid (ev_hit (e := (ek, ep, xs)) HH.out (fun j hj => A.out j (by simp only [MEv.ops] at hj; omega)))
      go_wp2_with fail
      go_ret
      exact ⟨ret_b N.out, BW.out⟩

theorem can_long {l : List MEv} (h : 300 < l.length) : canM l = false := by unfold canM; rw [decide_eq_false (by omega)]; rfl
theorem can_miss {l : List MEv} {k : Nat} (hk : k < l.length) (h : evOk (l.getD k default) = false) : canM l = false := by unfold canM; rw [all_miss hk h, Bool.and_false]
theorem can_hit {l : List MEv} (h : l.length ≤ 300) (ha : ∀ k, k < l.length → evOk (l.getD k default) = true) : canM l = true := by unfold canM; rw [decide_eq_true h, all_hit ha]; rfl

set_option maxHeartbeats 4000000 in
set_option maxRecDepth 100000 in
/-- The code's Can. -/
theorem can_any {S : Nat → Prop} (v : Value) (l : List MEv) (w : World) (te : TypeId) (pe : Value) (hv : w.cell? ⟨0, 0, none⟩ = some pe) (h : EvsIn S w v l) :
    Calls Tryd.prog 26 #[v] w fun e w' => e = .returned (.bool (canM l)) ∧ Below w.heap.size w w' := by
  have h1w : 0 < w.heap.size := World.block_lt_of_cell? _ _ hv
  have HV := hid hv
  clear hv
  obtain ⟨a1, c1, rfl, hbig, k0⟩ := RowsIn.cells h (by omega)
  have HC := hid k0
  clear h k0
  by_cases f1 : 300 < l.length
  · have f1i : 300 < ((l.length : Nat) : Int) := by omega
    have N := hid (can_long f1)
    go_enter Tryd.func26, Tryd.ntmps26
    go_wp2_with fail
    go_ret
    exact ⟨ret_b N.out, Below.refl _ _⟩
  have f1i : ¬ 300 < ((l.length : Nat) : Int) := by omega
  go_enter Tryd.func26, Tryd.ntmps26
  go_wp2_with fail
  clear f1i
  go_loopg [10] l.length (fun g i wr => ∃ k : Nat, k ≤ l.length ∧ l.length - k ≤ g ∧ i = .int .i64 k ∧ Aside (Below w.heap.size w wr) ∧ Aside (∀ j, j < k → evOk (l.getD j default) = true))
  case atStart => exact ⟨0, Nat.zero_le _, by omega, rfl, Below.refl _ _, fun j hj => absurd hj (Nat.not_lt_zero _)⟩
  case round =>
    obtain ⟨k, hk, hg, rfl, BW, A⟩ := hrel
    by_cases hlt : k < l.length
    · have hlti : (k : Int) < (l.length : Int) := by omega
      obtain ⟨b1, o1, cs1, rfl, hb1, _, ⟨ov, rfl, i1⟩, k1⟩ := HC.out k hlt
      have d0 : wr.cell? ⟨b1, o1 + k * 3, none⟩ = _ := (BW.out.cell (p := ⟨b1, o1 + k * 3, none⟩) hb1).trans (k1 0 _ rfl)
      have d1 := (BW.out.cell (p := ⟨b1, o1 + k * 3 + 1, none⟩) hb1).trans (k1 1 _ rfl)
      have d2 := (BW.out.cell (p := ⟨b1, o1 + k * 3 + 2, none⟩) hb1).trans (k1 2 _ rfl)
      clear k1
      have hsz := BW.out.size
      obtain ⟨oa, oc, rfl, -⟩ := id i1
      have J1 : Hid (∀ o, OpsIn Any (wr.alloc o) _ (l.getD k default).ops) := fun o => i1.keep (keeps_below (BW.out.trans ((below_box wr o).mono hsz))) (fun _ _ _ => trivial)
      clear i1
      generalize hX : l.getD k default = X at *
      have HX' := hid hX
      clear hX
      have hvr : wr.cell? ⟨0, 0, none⟩ = some pe := (BW.out.cell (p := ⟨0, 0, none⟩) h1w).trans HV.out
      have HVB : Hid (∀ o, (wr.alloc o).cell? ⟨0, 0, none⟩ = some pe) := fun o => Lib.cell?_alloc_some _ hvr
      clear hvr
      go_wp2_with fail
      refine (canEvent_any X _ _ te pe (HVB.out _) (J1.out _)).mono ?_
      rintro e w5 ⟨rfl, b5⟩
      have HB5 : Hid (Below w.heap.size w w5) := BW.out.trans (((below_box wr _).trans (b5.mono (by simp))).mono hsz)
      clear b5
      cases q1 : evOk X with
      | false =>
        have N := hid (can_miss hlt (by rw [HX'.out]; exact q1))
        go_wp2_with fail
        go_ret
        exact ⟨ret_b N.out, HB5.out⟩
      | true =>
        go_wp2_with fail
        go_roundg (l.length - (k + 1))
        case measure => omega
        case rel =>
          refine ⟨k + 1, by omega, by omega, by go_num, HB5.out, (show Aside _ from fun j hj => ?_)⟩
          by_cases e : j = k
          · subst e; rw [HX'.out]; exact q1
          · exact A.out j (by omega)
    · have N := hid (can_hit (l := l) (by omega) (fun j hj => A.out j (by omega)))
      go_wp2_with fail
      go_ret
      exact ⟨ret_b N.out, BW.out⟩
end Go.Proofs.YtjobdfgcgnpppaaDoor
namespace Go.Proofs.YtjobdfgcgnpppaaDoor
set_option linter.unusedVariables false
set_option linter.unusedSimpArgs false
open Go.RowKit

set_option maxHeartbeats 4000000 in
set_option maxRecDepth 100000 in
/-- The reference's MayOp. -/
theorem mayOp_any {S : Nat → Prop} (o : MOp) (lv : Value) (w : World) (h : IntsIn S w lv o.list) (hz : o.key.size ≤ 9223372036854775806) :
    Calls Tryd.prog 32 #[.agg #[.int .i64 o.kind, .string o.key, .int .i64 o.value, lv, .bool o.has, .bool o.nl]] w fun e w' => e = .returned (.bool (keyOk o.key && opOk o)) ∧ Below w.heap.size w w' := by
  obtain ⟨k, s, v, l, hs, nl⟩ := o
  obtain ⟨a1, c1, rfl, -⟩ := id h
  clear h
  simp only [MOp.kind, MOp.key, MOp.value, MOp.list, MOp.has, MOp.nl] at *
  have HB : Hid (Below w.heap.size w (w.alloc (.cells #[.int .i64 k, .string s, .int .i64 v, .slice a1 l.length c1, .bool hs, .bool nl] 76))) := (Below.refl _ w).alloc (Nat.le_refl _) _
  have KC : ∀ W, Calls Tryd.prog 47 #[.string s] W fun e w' => e = .returned (.bool (keyOk s)) ∧ W = w' := fun W => (refKey_any s W hz).mono fun _ _ h => ⟨h.1, h.2.symm⟩
  cases kk : keyOk s with
  | false =>
    rw [kk] at KC
    go_enter Tryd.func32, Tryd.ntmps32
    go_wp2_with (go_at_call 47; refine (KC _).mono ?_; rintro e w' ⟨rfl, rfl⟩)
    go_ret
    exact ⟨ret_b rfl, HB.out⟩
  | true =>
  rw [kk] at KC
  rw [Bool.true_and]
  by_cases k1 : k = 1
  · subst k1
    cases q1 : (((l.length : Nat) : Int) == 0) <;> cases hs <;> cases nl <;>
    · go_enter Tryd.func32, Tryd.ntmps32
      go_wp2_with (go_at_call 47; refine (KC _).mono ?_; rintro e w' ⟨rfl, rfl⟩)
      go_ret
      exact ⟨ret_b (by simp only [opOk, len, MOp.kind, MOp.value, MOp.list, MOp.has, MOp.nl, q1]; rfl), HB.out⟩
  by_cases k3 : k = 3
  · subst k3
    cases q1 : (((l.length : Nat) : Int) == 0) <;> cases hs <;> cases nl <;>
    · go_enter Tryd.func32, Tryd.ntmps32
      go_wp2_with (go_at_call 47; refine (KC _).mono ?_; rintro e w' ⟨rfl, rfl⟩)
      go_ret
      exact ⟨ret_b (by simp only [opOk, len, MOp.kind, MOp.value, MOp.list, MOp.has, MOp.nl, q1]; rfl), HB.out⟩
  by_cases k2 : k = 2
  · subst k2
    cases q2 : (v == 0) <;> cases q1 : (((l.length : Nat) : Int) == 0) <;> rcases len40 l with ⟨q4, Q5⟩ | ⟨q4, Q5⟩ <;> cases hs <;> cases nl <;>
    · go_enter Tryd.func32, Tryd.ntmps32
      go_wp2_with (go_at_call 47; refine (KC _).mono ?_; rintro e w' ⟨rfl, rfl⟩)
      go_ret
      exact ⟨ret_b (by simp only [opOk, len, MOp.kind, MOp.value, MOp.list, MOp.has, MOp.nl, q1, q2, Q5.out]; rfl), HB.out⟩
  by_cases k4 : k = 4
  · subst k4
    cases q2 : (v == 0) <;> cases q1 : (((l.length : Nat) : Int) == 0) <;> cases hs <;> cases nl <;>
    · go_enter Tryd.func32, Tryd.ntmps32
      go_wp2_with (go_at_call 47; refine (KC _).mono ?_; rintro e w' ⟨rfl, rfl⟩)
      go_ret
      exact ⟨ret_b (by simp only [opOk, len, MOp.kind, MOp.value, MOp.list, MOp.has, MOp.nl, q1, q2]; rfl), HB.out⟩
  · have e1 : (k == 1) = false := by simpa using k1
    have e2 : (k == 2) = false := by simpa using k2
    have e3 : (k == 3) = false := by simpa using k3
    have e4 : (k == 4) = false := by simpa using k4
    have R : Hid (opOk (k, s, v, l, hs, nl) = false) := by show opOk _ = _; simp [opOk, MOp.kind, e1, e2, e3, e4]
    go_enter Tryd.func32, Tryd.ntmps32
    go_wp2_with (go_at_call 47; refine (KC _).mono ?_; rintro e w' ⟨rfl, rfl⟩)
    go_ret
    exact ⟨ret_b R.out, HB.out⟩
end Go.Proofs.YtjobdfgcgnpppaaDoor
namespace Go.Proofs.YtjobdfgcgnpppaaDoor
set_option linter.unusedVariables false
set_option linter.unusedSimpArgs false
open Go.RowKit

/-- Keys of no more bytes than an int tells. -/
def KeysFit (l : List MEv) : Prop := ∀ e ∈ l, ∀ o ∈ e.ops, o.key.size ≤ 9223372036854775806

theorem mem_at {α : Type} [Inhabited α] {l : List α} {k : Nat} (h : k < l.length) : l.getD k default ∈ l := by
  simp [List.getD, List.getElem?_eq_getElem h]

set_option maxHeartbeats 8000000 in
set_option maxRecDepth 100000 in
/-- The reference's Can. -/
theorem refCan_any {S : Nat → Prop} (v : Value) (l : List MEv) (w : World) (hk0 : KeysFit l) (h : EvsIn S w v l) :
    Calls Tryd.prog 19 #[v] w fun e w' => e = .returned (.bool (canM l)) ∧ Below w.heap.size w w' := by
  have HKF := hid hk0
  clear hk0
  obtain ⟨a1, c1, rfl, hbig, k0⟩ := RowsIn.cells h (by omega)
  have HC := hid k0
  clear h k0
  by_cases f1 : 300 < l.length
  · have f1i : 300 < ((l.length : Nat) : Int) := by omega
    have N := hid (can_long f1)
    go_enter Tryd.func19, Tryd.ntmps19
    go_wp2_with fail
    go_ret
    exact ⟨ret_b N.out, Below.refl _ _⟩
  have f1i : ¬ 300 < ((l.length : Nat) : Int) := by omega
  go_enter Tryd.func19, Tryd.ntmps19
  go_wp2_with fail
  clear f1i
  go_loopg [12] l.length (fun g i wr => ∃ k : Nat, k ≤ l.length ∧ l.length - k ≤ g ∧ i = .int .i64 k ∧ Aside (Below w.heap.size w wr) ∧ Aside (∀ j, j < k → evOk (l.getD j default) = true))
  case atStart => exact ⟨0, Nat.zero_le _, by omega, rfl, Below.refl _ _, fun j hj => absurd hj (Nat.not_lt_zero _)⟩
  case round =>
    obtain ⟨k, hk, hg, rfl, BW, A⟩ := hrel
    by_cases hlt : k < l.length
    · have hlti : (k : Int) < (l.length : Int) := by omega
      obtain ⟨b1, o1, cs1, rfl, hb1, _, ⟨ov, rfl, i1⟩, k1⟩ := HC.out k hlt
      have d0 : wr.cell? ⟨b1, o1 + k * 3, none⟩ = _ := (BW.out.cell (p := ⟨b1, o1 + k * 3, none⟩) hb1).trans (k1 0 _ rfl)
      have d1 := (BW.out.cell (p := ⟨b1, o1 + k * 3 + 1, none⟩) hb1).trans (k1 1 _ rfl)
      have d2 := (BW.out.cell (p := ⟨b1, o1 + k * 3 + 2, none⟩) hb1).trans (k1 2 _ rfl)
      clear k1
      have hsz := BW.out.size
      have HBx : Hid (∀ o, Below w.heap.size w (wr.alloc o)) := fun o => BW.out.trans ((below_box wr o).mono hsz)
      have KF := hid (HKF.out _ (mem_at hlt))
      obtain ⟨oa, oc, rfl, _, ro⟩ := RowsIn.cells i1 (by omega)
      have RO := hid ro
      clear i1 ro
      generalize hX : l.getD k default = X at *
      have HX' := hid hX
      clear hX
      obtain ⟨ek, ep, xs⟩ := X
      simp only [MEv.kind, MEv.proc, MEv.ops] at *
      by_cases g1 : ek < 1
      · skip
        have N := hid (can_miss hlt (by rw [HX'.out]; exact ev_no (fun h => by have := h.1; simp only [MEv.kind] at this; omega)))
        go_wp2_with fail
        go_ret
        exact ⟨ret_b N.out, HBx.out _⟩
      by_cases g2 : 4 < ek
      · skip
        have N := hid (can_miss hlt (by rw [HX'.out]; exact ev_no (fun h => by have := h.2.1; simp only [MEv.kind] at this; omega)))
        go_wp2_with fail
        go_ret
        exact ⟨ret_b N.out, HBx.out _⟩
      by_cases g3 : ep < 0
      · skip
        have N := hid (can_miss hlt (by rw [HX'.out]; exact ev_no (fun h => by have := h.2.2.1; simp only [MEv.proc] at this; omega)))
        go_wp2_with fail
        go_ret
        exact ⟨ret_b N.out, HBx.out _⟩
      by_cases g4 : 99 < ep
      · skip
        have N := hid (can_miss hlt (by rw [HX'.out]; exact ev_no (fun h => by have := h.2.2.2.1; simp only [MEv.proc] at this; omega)))
        go_wp2_with fail
        go_ret
        exact ⟨ret_b N.out, HBx.out _⟩
      by_cases g5 : xs.length < 1
      · have g5i : ((xs.length : Nat) : Int) < 1 := by omega
        have N := hid (can_miss hlt (by rw [HX'.out]; exact ev_no (fun h => by have := h.2.2.2.2.1; simp only [MEv.ops] at this; omega)))
        go_wp2_with fail
        go_ret
        exact ⟨ret_b N.out, HBx.out _⟩
      have g5i : ¬ ((xs.length : Nat) : Int) < 1 := by omega
      by_cases g6 : 8 < xs.length
      · have g6i : 8 < ((xs.length : Nat) : Int) := by omega
        have N := hid (can_miss hlt (by rw [HX'.out]; exact ev_no (fun h => by have := h.2.2.2.2.2; simp only [MEv.ops] at this; omega)))
        go_wp2_with fail
        go_ret
        exact ⟨ret_b N.out, HBx.out _⟩
      have g6i : ¬ 8 < ((xs.length : Nat) : Int) := by omega
      have HH : Hid (evHead (ek, ep, xs)) := ⟨by simp only [MEv.kind]; omega, by simp only [MEv.kind]; omega, by simp only [MEv.proc]; omega, by simp only [MEv.proc]; omega, by simp only [MEv.ops]; omega, by simp only [MEv.ops]; omega⟩
      go_wp2_with fail
      clear g1 g2 g3 g4 g5 g6 g5i g6i d0 d1 d2
      go_loopg [49] xs.length (fun g i wq => ∃ q : Nat, q ≤ xs.length ∧ xs.length - q ≤ g ∧ i = .int .i64 q ∧ Aside (Below w.heap.size w wq) ∧ Aside (∀ j, j < q → opKey (xs.getD j default) = true))
      case atStart => exact ⟨0, Nat.zero_le _, by omega, rfl, HBx.out _, fun j hj => absurd hj (Nat.not_lt_zero _)⟩
      case round =>
        obtain ⟨q, hq, hgq, rfl, BQ, AQ⟩ := hrel
        by_cases hlq : q < xs.length
        · have hlqi : (q : Int) < (xs.length : Int) := by omega
          obtain ⟨b2, o2, cs2, rfl, hb2, _, ⟨l1, rfl, i1⟩, k1⟩ := RO.out q hlq
          have e0 : wr.cell? ⟨b2, o2 + q * 6, none⟩ = _ := (BQ.out.cell (p := ⟨b2, o2 + q * 6, none⟩) hb2).trans (k1 0 _ rfl)
          have e1 := (BQ.out.cell (p := ⟨b2, o2 + q * 6 + 1, none⟩) hb2).trans (k1 1 _ rfl)
          have e2 := (BQ.out.cell (p := ⟨b2, o2 + q * 6 + 2, none⟩) hb2).trans (k1 2 _ rfl)
          have e3 := (BQ.out.cell (p := ⟨b2, o2 + q * 6 + 3, none⟩) hb2).trans (k1 3 _ rfl)
          have e4 := (BQ.out.cell (p := ⟨b2, o2 + q * 6 + 4, none⟩) hb2).trans (k1 4 _ rfl)
          have e5 := (BQ.out.cell (p := ⟨b2, o2 + q * 6 + 5, none⟩) hb2).trans (k1 5 _ rfl)
          clear k1
          have hsq := BQ.out.size
          have kf := KF.out _ (mem_at hlq)
          obtain ⟨al1, cl1, rfl, -⟩ := id i1
          have J1 : Hid (∀ o, IntsIn Any (wr.alloc o) _ (xs.getD q default).list) := fun o => i1.keep (keeps_below (BQ.out.trans ((below_box wr o).mono hsq))) (fun _ _ _ => trivial)
          clear i1
          generalize hY : xs.getD q default = Y at *
          have HY' := hid hY
          have KY := hid kf
          clear hY kf
          go_wp2_with fail
          refine (mayOp_any Y _ _ (J1.out _) KY.out).mono ?_
          rintro e w5 ⟨rfl, b5⟩
          have HB5 : Hid (Below w.heap.size w w5) := BQ.out.trans (((below_box wr _).trans (b5.mono (by simp))).mono hsq)
          clear b5
          have ho : opKey Y = (keyOk Y.key && opOk Y) := rfl
          rw [← ho]
          clear ho
          cases q1 : opKey Y with
          | false =>
            have N := hid (can_miss hlt (by rw [HX'.out]; exact ev_miss (k := q) hlq (by show opKey (xs.getD q default) = false; rw [HY'.out]; exact q1)))
            go_wp2_with fail
            go_ret
            exact ⟨ret_b N.out, HB5.out⟩
          | true =>
            go_wp2_with fail
            go_roundg (xs.length - (q + 1))
            case measure => omega
            case rel =>
              refine ⟨q + 1, by omega, by omega, by go_num, HB5.out, (show Aside _ from fun j hj => ?_)⟩
              by_cases e : j = q
              · subst e; rw [HY'.out]; exact q1
              · exact AQ.out j (by omega)
        · have N := hid (ev_hit (e := (ek, ep, xs)) HH.out (fun j hj => AQ.out j (by simp only [MEv.ops] at hj; omega)))
          go_wp2_with fail
          go_roundg (l.length - (k + 1))
          case measure => omega
          case rel =>
            refine ⟨k + 1, by omega, by omega, by go_num, BQ.out, (show Aside _ from fun j hj => ?_)⟩
            by_cases e : j = k
            · subst e; rw [HX'.out]; exact N.out
            · exact A.out j (by omega)
    · have N := hid (can_hit (l := l) (by omega) (fun j hj => A.out j (by omega)))
      go_wp2_with fail
      go_ret
      exact ⟨ret_b N.out, BW.out⟩
end Go.Proofs.YtjobdfgcgnpppaaDoor
namespace Go.Proofs.YtjobdfgcgnpppaaDoor
set_option linter.unusedVariables false
set_option linter.unusedSimpArgs false
open Go.RowKit

theorem writes_is (k : Int) (w : World) : Calls Tryd.prog 61 #[.int .i64 k] w fun e w' => e = .returned (.bool (wrt k)) ∧ w = w' := by
  unfold wrt
  cases h1 : (k == (1 : Int)) with
  | true =>
    go_enter Tryd.func61, Tryd.ntmps61
    go_wp2
    go_ret
    exact ⟨rfl, rfl⟩
  | false =>
    cases h3 : (k == (3 : Int)) with
    | true =>
      go_enter Tryd.func61, Tryd.ntmps61
      go_wp2
      go_ret
      exact ⟨rfl, rfl⟩
    | false =>
      go_enter Tryd.func61, Tryd.ntmps61
      go_wp2
      go_ret
      exact ⟨rfl, rfl⟩
theorem thing_is (k : Int) (w : World) : Calls Tryd.prog 62 #[.int .i64 k] w fun e w' => e = .returned (.int .i64 (thg k)) ∧ w = w' := by
  have ht : Hid (thg k = if (k == (1 : Int)) || (k == (2 : Int)) then 1 else if (k == (3 : Int)) || (k == (4 : Int)) then 3 else 0) := by
    show thg k = _
    unfold thg
    simp only [Bool.or_eq_true, beq_iff_eq]
  cases h1 : (k == (1 : Int)) <;> cases h2 : (k == (2 : Int)) <;> cases h3 : (k == (3 : Int)) <;> cases h4 : (k == (4 : Int)) <;>
  · rw [h1, h2, h3, h4] at ht
    rw [show thg k = _ from ht.out]
    clear ht
    go_enter Tryd.func62, Tryd.ntmps62
    go_wp2
    go_ret
    exact ⟨rfl, rfl⟩
/-- An operation as a value. -/
def opW (o : MOp) (a : Option Addr) (n c : Nat) : Value := .agg #[.int .i64 o.kind, .string o.key, .int .i64 o.value, .slice a n c, .bool o.has, .bool o.nl]
set_option maxHeartbeats 2000000 in
theorem asked_is (x y : MOp) (a a' : Option Addr) (n n' c c' : Nat) (w : World) : Calls Tryd.prog 53 #[opW x a n c, opW y a' n' c'] w fun e w' => e = .returned (.bool (askB x y)) ∧ Below w.heap.size w w' := by
  have WR := hid (fun W => writes_is x.kind W)
  unfold askB
  obtain ⟨k, s, v, l, h, nl⟩ := x
  obtain ⟨k', s', v', l', h', nl'⟩ := y
  simp only [MOp.kind, MOp.key, MOp.value, opW] at *
  have B1 : ∀ o o', Hid (Below w.heap.size w ((w.alloc o).alloc o')) := fun o o' => ((Below.refl _ w).alloc (Nat.le_refl _) _).alloc (by simp) _
  cases q1 : (k == k') with
  | false =>
    go_enter Tryd.func53, Tryd.ntmps53
    go_wp2_with fail
    go_ret
    exact ⟨rfl, (B1 _ _).out⟩
  | true =>
    cases q2 : (s.toList == s'.toList) with
    | false =>
      go_enter Tryd.func53, Tryd.ntmps53
      go_wp2_with fail
      go_ret
      exact ⟨rfl, (B1 _ _).out⟩
    | true =>
      generalize wrt k = b at *
      cases b with
      | false =>
        go_enter Tryd.func53, Tryd.ntmps53
        go_wp2_with (go_at_call 61; refine (WR.out _).mono ?_; rintro e w2 ⟨rfl, rfl⟩)
        go_ret
        exact ⟨rfl, (B1 _ _).out⟩
      | true =>
        cases q3 : (v == v') with
        | false =>
          go_enter Tryd.func53, Tryd.ntmps53
          go_wp2_with (go_at_call 61; refine (WR.out _).mono ?_; rintro e w2 ⟨rfl, rfl⟩)
          go_ret
          exact ⟨rfl, (B1 _ _).out⟩
        | true =>
          go_enter Tryd.func53, Tryd.ntmps53
          go_wp2_with (go_at_call 61; refine (WR.out _).mono ?_; rintro e w2 ⟨rfl, rfl⟩)
          go_ret
          exact ⟨rfl, (B1 _ _).out⟩
end Go.Proofs.YtjobdfgcgnpppaaDoor
