/-
  Walk of the reference's Decimal.
  The document's Print of a report, its parts: a number, a key, one of two words, a label.
  The document's Print of a report: a level's name.
  A sum of strings as one operation of a drawn region.
  Walk of the reference's token.
-/
import Derived.Test.YtkpomcimaofkkaaGreatDoorU1
import Derived.Test.YtkpomcimaofkkaaGreatDoorU14
import Derived.Laws.IdiomStrings
import Derived.Laws.Concat
import Derived.Test.YtkpomcimaofkkaaGreatDoorU20
import Derived.Test.YtkpomcimaofkkaaGreatDoorU13
namespace Go.Proofs.YtkpomcimaofkkaaGreatDoor
open Go.RowKit
set_option linter.unusedVariables false
set_option linter.unusedSimpArgs false

theorem one_byte (c : Int) (h0 : 0 ≤ c) (hc : c ≤ 255) (w : World) : (convert 75 9 (.slice (some ⟨w.heap.size, 0, none⟩) 1 1)).run Tryz.prog (w.alloc (.cells #[.int .u8 c] 5)) = .ok (.string ⟨#[UInt8.ofNat c.toNat]⟩) (w.alloc (.cells #[.int .u8 c] 5)) := by
  refine run_convert_bytes_back (w.alloc (.cells #[.int .u8 c] 5)) 75 9 5 ⟨w.heap.size, 0, none⟩ 1 [UInt8.ofNat c.toNat] Tryz.underlying75 Tryz.underlying5 Tryz.underlying9 ?_
  intro j hj
  match j, hj with
  | 0, hj =>
    have : (((UInt8.ofNat c.toNat).toNat : Nat) : Int) = c := by rw [UInt8.toNat_ofNat']; omega
    simp only [List.getElem_cons_zero, this]
    simp [Addr.add]
  | j + 1, hj => simp at hj

theorem size_nil {s : ByteArray} (h : s.data.toList = []) : s.size = 0 := by
  have := congrArg List.length h
  simpa using this

theorem dec_step {g u v : Nat} {s : ByteArray} {b : UInt8} (h : decAcc g u s.data.toList = dec v) (hu : u < 10 ^ g) (hne : s.data.toList = [] → 1 ≤ g) (hc : ¬ (u = 0 ∧ s.data.toList ≠ [])) (hb : b = dg u) :
    ∃ g', g = g' + 1 ∧ u / 10 < 10 ^ g' ∧ decAcc g' (u / 10) ((⟨#[b]⟩ : ByteArray) ++ s).data.toList = dec v := by
  cases g with
  | zero =>
    simp at hu
    subst hu
    by_cases hs : s.data.toList = []
    · have := hne hs; omega
    · exact absurd ⟨rfl, hs⟩ hc
  | succ g =>
    refine ⟨g, rfl, by rw [Nat.pow_succ] at hu; omega, ?_⟩
    rw [← h]
    conv => rhs; unfold decAcc
    rw [if_neg hc, hb]
    simp [ByteArray.data_append]

set_option maxRecDepth 100000 in
set_option maxHeartbeats 2000000 in
theorem digits_walk (v : Nat) (w : World) (hv : v ≤ 9223372036854775808) :
    Calls Tryz.prog 112 #[.int .i64 (-(v : Int))] w fun e w' => (∃ s : ByteArray, e = .returned (.string s) ∧ s.data.toList = dec v) ∧ Below w.heap.size w w' := by
  go_enter Tryz.func112, Tryz.ntmps112
  go_wp2
  go_loopg [0, 3] 20 (fun g n t wr => ∃ (u : Nat) (s : ByteArray), n = .int .i64 (-(u : Int)) ∧ t = .string s ∧ u ≤ v ∧ s.size + g ≤ 20 ∧ Aside (u < 10 ^ g) ∧ Aside (s.data.toList = [] → 1 ≤ g) ∧ Aside (decAcc g u s.data.toList = dec v) ∧ Aside (Below w.heap.size w wr))
  case atStart => exact ⟨v, ⟨#[]⟩, rfl, rfl, Nat.le_refl _, by decide, (show v < 10 ^ 20 by omega), fun _ => by omega, rfl, Below.refl _ _⟩
  case round =>
    obtain ⟨u, s, rfl, rfl, huv, hsl, hu, hne, HD, BW⟩ := hrel
    have hsz := BW.out.size
    by_cases h0 : u = 0
    · subst h0
      by_cases hs : s.data.toList = []
      · have hem : s.toList.isEmpty = true := by rw [ByteArray.toList_eq, hs]; rfl
        obtain ⟨g', hg', a1, a2⟩ := dec_step (b := 48) HD.out hu.out hne.out (by simp [hs]) (by decide)
        have HG := hid hg'
        have HA1 := hid a1
        have HA2 := hid a2
        have c48 : (convert 75 9 (.slice (some ⟨wr.heap.size, 0, none⟩) 1 1)).run Tryz.prog (wr.alloc (.cells #[.int .u8 48] 5)) = .ok (.string ⟨#[48]⟩) (wr.alloc (.cells #[.int .u8 48] 5)) := one_byte 48 (by omega) (by omega) wr
        have hadd : ∀ wx, (Op.stringOp .add ⟨#[48]⟩ s).run Tryz.prog wx = .ok (.string (⟨#[48]⟩ ++ s)) wx := fun wx => run_string_add_sum wx _ _ (by show 1 + s.size ≤ _; omega)
        have hsz1 : ((⟨#[48]⟩ : ByteArray) ++ s).size = 1 + s.size := by simp [ByteArray.size_append]; rfl
        generalize ((⟨#[48]⟩ : ByteArray) ++ s) = s1 at hadd HA2 hsz1
        clear hs hne hg' a1 a2 hu
        go_wp2_with fail
        go_roundg g'
        case measure => have := HG.out; omega
        case rel => exact ⟨0, s1, by go_num, rfl, by omega, by have := HG.out; omega, (by show (0 : Nat) < 10 ^ g'; exact Nat.pow_pos (by omega)), (show Aside _ from fun h => by have := size_nil h; omega), (show Aside _ from HA2.out), BW.out.alloc hsz _⟩
      · have hem : s.toList.isEmpty = false := by
          rw [ByteArray.toList_eq]
          cases h : s.data.toList with
          | nil => exact absurd h hs
          | cons _ _ => rfl
        have HF : Hid (s.data.toList = dec v) := by
          show s.data.toList = dec v
          rw [← HD.out, decAcc_end _ hs]
        clear hs hne hu
        go_wp2_with fail
        go_ret
        exact ⟨⟨s, rfl, HF.out⟩, BW.out⟩
    · have hlt : -(u : Int) < 0 := by omega
      obtain ⟨g', hg', a1, a2⟩ := dec_step (b := UInt8.ofNat (48 + (u : Int) % 10).toNat) HD.out hu.out hne.out (by simp [h0]) (by unfold dg; congr 1)
      have HG := hid hg'
      have HA1 := hid a1
      have HA2 := hid a2
      have cc := one_byte (48 + (u : Int) % 10) (by omega) (by omega) wr
      clear hne hg' a1 a2 hu
      generalize UInt8.ofNat (48 + (u : Int) % 10).toNat = b at HA2 cc
      have hadd : ∀ wx, (Op.stringOp .add ⟨#[b]⟩ s).run Tryz.prog wx = .ok (.string (⟨#[b]⟩ ++ s)) wx := fun wx => run_string_add_sum wx _ _ (by show 1 + s.size ≤ _; omega)
      have hsz1 : ((⟨#[b]⟩ : ByteArray) ++ s).size = 1 + s.size := by simp [ByteArray.size_append]; rfl
      generalize ((⟨#[b]⟩ : ByteArray) ++ s) = s1 at hadd HA2 hsz1
      go_wp2_with fail
      go_roundg g'
      case measure => have := HG.out; omega
      case rel => exact ⟨u / 10, s1, by go_num, rfl, by omega, by have := HG.out; omega, HA1.out, (show Aside _ from fun h => by have := size_nil h; omega), (show Aside _ from HA2.out), BW.out.alloc hsz _⟩

/-- The reference's Decimal. -/
theorem decimal_any (n : Int) (w : World) (h0 : -9223372036854775808 ≤ n) (h1 : n ≤ 9223372036854775807) :
    Calls Tryz.prog 84 #[.int .i64 n] w fun e w' => (∃ s : ByteArray, e = .returned (.string s) ∧ s.data.toList = decimal n) ∧ Below w.heap.size w w' := by
  by_cases hn : 0 ≤ n
  · obtain ⟨v, rfl⟩ := Int.eq_ofNat_of_zero_le hn
    have H := hid (digits_walk v w (by omega))
    have HD : Hid (decimal (v : Int) = dec v) := by show decimal (v : Int) = dec v; unfold decimal; rw [if_pos hn]; simp
    go_enter Tryz.func84, Tryz.ntmps84
    go_wp2_with fail
    refine H.out.mono ?_
    rintro e w1 ⟨⟨s, rfl, hs⟩, hb⟩
    have HS := hid hs
    clear hs
    go_wp2_with fail
    go_ret
    exact ⟨⟨s, rfl, by rw [HS.out, HD.out]⟩, hb⟩
  · obtain ⟨v, hv⟩ : ∃ v : Nat, n = -(v : Int) := ⟨(-n).toNat, by omega⟩
    subst hv
    have H := hid (digits_walk v w (by omega))
    have hn' : ¬ (0 : Int) ≤ -(v : Int) := hn
    have HD : Hid (decimal (-(v : Int)) = 45 :: dec v) := by show decimal (-(v : Int)) = _; unfold decimal; rw [if_neg hn]; simp
    go_enter Tryz.func84, Tryz.ntmps84
    go_wp2_with fail
    refine H.out.mono ?_
    rintro e w1 ⟨⟨s, rfl, hs⟩, hb⟩
    have HS := hid hs
    have hlen : s.size ≤ 20 := by
      have h1 := (dec_len (v := v) (by omega)).2
      have h2 : s.size = s.data.toList.length := by simp
      rw [h2, hs]; exact h1
    have hadd : ∀ wx, (Op.stringOp .add ⟨#[45]⟩ s).run Tryz.prog wx = .ok (.string (⟨#[45]⟩ ++ s)) wx := fun wx => run_string_add_sum wx _ _ (by show 1 + s.size ≤ _; omega)
    clear hs
    go_wp2_with fail
    go_ret
    exact ⟨⟨_, rfl, by rw [HD.out, ← HS.out]; simp [ByteArray.data_append]⟩, hb⟩
end Go.Proofs.YtkpomcimaofkkaaGreatDoor
namespace Go.Proofs.YtkpomcimaofkkaaGreatDoor.Rp
set_option linter.unusedVariables false
set_option linter.unusedSimpArgs false
open Go.RowKit Go.Lib

theorem eq_of_data {a b : ByteArray} (h : a.data.toList = b.data.toList) : a = b := by
  apply ByteArray.ext
  exact Array.toList_inj.1 h
/-- A blank, and a text. -/
def spB (x : ByteArray) : ByteArray := ⟨#[32]⟩ ++ x
theorem dnum_is21 (n : Int) (hn : i64R n) (w : World) : Calls Tryz.prog 44 #[.int .i64 n] w fun e w' => e = .returned (.string (spB (decB n))) ∧ Below w.heap.size w w' := by
  have D := hid (decimal_any n w hn.1 hn.2)
  have HS := hid (decB_size hn)
  clear hn
  go_enter Tryz.func44, Tryz.ntmps44
  go_wp2_with fail
  go_at_call 84
  refine D.out.mono ?_
  rintro e w1 ⟨⟨s, rfl, hs⟩, b1⟩
  obtain rfl : s = decB n := eq_of_data hs
  have B1 := hid b1
  have hsz := HS.out
  clear b1 hs
  obtain ⟨d, hd⟩ : ∃ d, decB n = d := ⟨_, rfl⟩
  have HD := hid hd
  rw [hd] at hsz ⊢
  clear hd
  go_wp2_with fail
  go_ret
  exact ⟨by rw [HD.out]; rfl, B1.out⟩
theorem deither_is21 (b : Bool) (y n : ByteArray) (w : World) : Calls Tryz.prog 45 #[.bool b, .string y, .string n] w fun e w' => e = .returned (.string (eiB b y n)) ∧ Below w.heap.size w w' := by
  cases b
  · go_enter Tryz.func45, Tryz.ntmps45
    go_wp2_with fail
    go_ret
    exact ⟨rfl, Below.refl _ _⟩
  · go_enter Tryz.func45, Tryz.ntmps45
    go_wp2_with fail
    go_ret
    exact ⟨rfl, Below.refl _ _⟩
set_option maxHeartbeats 1000000 in
theorem dkey_is21 (k : ByteArray) (hk : k.size ≤ 1000) (w : World) : Calls Tryz.prog 85 #[.string k] w fun e w' => e = .returned (.string (spB (brB k))) ∧ Below w.heap.size w w' := by
  by_cases h : k.toList = []
  · have h2 : k.toList.isEmpty = true := by rw [h]; rfl
    have h3 : k = ⟨#[]⟩ := by
      apply ByteArray.ext
      rw [ByteArray.toList_eq] at h
      exact Array.toList_eq_nil_iff.1 h
    have HE : Hid (spB (brB k) = ⟨#[32, 40, 32, 41]⟩) := by show _ = _; unfold brB; rw [if_pos h]; rfl
    clear h
    go_enter Tryz.func85, Tryz.ntmps85
    go_wp2_with fail
    go_ret
    exact ⟨by rw [HE.out]; rfl, Below.refl _ _⟩
  · have h2 : k.toList.isEmpty = false := by simpa using h
    have HE : Hid (spB (brB k) = ⟨#[32, 40, 32]⟩ ++ k ++ ⟨#[32, 41]⟩) := by
      show _ = _
      unfold brB spB
      rw [if_neg h]
      apply eq_of_data
      simp [ByteArray.data_append]
    clear h
    go_enter Tryz.func85, Tryz.ntmps85
    go_wp2_with fail
    go_ret
    exact ⟨by rw [HE.out]; rfl, Below.refl _ _⟩
set_option maxHeartbeats 1000000 in
theorem dlabelW_is21 (n : Int) (w : World) : Calls Tryz.prog 86 #[.int .i64 n] w fun e w' => e = .returned (.string (wordN labelWs n)) ∧ Below w.heap.size w w' := by
  by_cases h1 : n = 1
  · subst h1
    go_enter Tryz.func86, Tryz.ntmps86
    go_wp2_with fail
    go_ret
    exact ⟨rfl, Below.refl _ _⟩
  by_cases h2 : n = 2
  · subst h2
    go_enter Tryz.func86, Tryz.ntmps86
    go_wp2_with fail
    go_ret
    exact ⟨rfl, Below.refl _ _⟩
  by_cases h4 : n = 4
  · subst h4
    go_enter Tryz.func86, Tryz.ntmps86
    go_wp2_with fail
    go_ret
    exact ⟨rfl, Below.refl _ _⟩
  by_cases h8 : n = 8
  · subst h8
    go_enter Tryz.func86, Tryz.ntmps86
    go_wp2_with fail
    go_ret
    exact ⟨rfl, Below.refl _ _⟩
  have HE : Hid (wordN labelWs n = ⟨#[]⟩) := by
    show _ = _
    unfold wordN
    split
    · rename_i hk
      have hl : labelWs.length = 9 := rfl
      rcases (by omega : n = 0 ∨ n = 3 ∨ n = 5 ∨ n = 6 ∨ n = 7) with rfl | rfl | rfl | rfl | rfl <;> rfl
    · rfl
  have e1 : (n == 1) = false := by simpa using h1
  have e2 : (n == 2) = false := by simpa using h2
  have e4 : (n == 4) = false := by simpa using h4
  have e8 : (n == 8) = false := by simpa using h8
  clear h1 h2 h4 h8
  go_enter Tryz.func86, Tryz.ntmps86
  go_wp2_with fail
  go_ret
  exact ⟨by rw [HE.out]; rfl, Below.refl _ _⟩
end Go.Proofs.YtkpomcimaofkkaaGreatDoor.Rp
namespace Go.Proofs.YtkpomcimaofkkaaGreatDoor.Rp
set_option linter.unusedVariables false
set_option linter.unusedSimpArgs false
open Go.RowKit Go.Lib

theorem dnames_is21 (w : World) : Calls Tryz.prog 87 #[] w fun e w' => e = .returned (.slice (some ⟨w.heap.size, 0, none⟩) 6 6) ∧ w.alloc (.cells (levelWs.map Value.string).toArray 9) = w' := by
  go_enter Tryz.func87, Tryz.ntmps87
  go_wp2_with fail
  go_ret
  exact ⟨rfl, rfl⟩
set_option maxHeartbeats 2000000 in
set_option maxRecDepth 100000 in
theorem dname_is21 (k : Int) (w : World) : Calls Tryz.prog 47 #[.int .i64 k] w fun e w' => e = .returned (.string (nameN k)) ∧ Below w.heap.size w w' := by
  by_cases h0 : k < 0
  · have HE : Hid (nameN k = ⟨#[]⟩) := by
      show _ = _
      unfold nameN levelN
      have : ¬ (0 ≤ k) := by omega
      rw [if_neg (by simp [this])]
    go_enter Tryz.func47, Tryz.ntmps47
    go_wp2_with fail
    go_ret
    exact ⟨by rw [HE.out]; rfl, Below.refl _ _⟩
  by_cases h5 : 5 < k
  · have HE : Hid (nameN k = ⟨#[]⟩) := by
      show _ = _
      unfold nameN levelN
      have : ¬ (k < 6) := by omega
      rw [if_neg (by simp [this])]
    go_enter Tryz.func47, Tryz.ntmps47
    go_wp2_with fail
    go_ret
    exact ⟨by rw [HE.out]; rfl, Below.refl _ _⟩
  obtain ⟨n, rfl⟩ : ∃ n : Nat, k = n := ⟨k.toNat, by omega⟩
  have HE : Hid (nameN n = levelWs.getD n default) := by
    show _ = _
    unfold nameN levelN
    rw [if_pos (by simp; omega)]
    rfl
  have hn : n < 6 := by omega
  have hl : levelWs.length = 6 := rfl
  have hc : (w.alloc (.cells (levelWs.map Value.string).toArray 9)).cell? ⟨w.heap.size, n, none⟩ = some (.string (levelWs.getD n default)) := (words_is w levelWs).cell (by omega)
  have hb := below_box w (.cells (levelWs.map Value.string).toArray 9)
  obtain ⟨W, hW⟩ : ∃ W, w.alloc (.cells (levelWs.map Value.string).toArray 9) = W := ⟨_, rfl⟩
  have D := hid (dnames_is21 w)
  rw [hW] at hc hb D
  have B := hid hb
  generalize levelWs.getD n default = y at hc HE
  clear hb hW hl
  go_enter Tryz.func47, Tryz.ntmps47
  go_wp2_with (go_at_call 87; refine D.out.mono ?_; rintro e w2 ⟨rfl, rfl⟩)
  go_ret
  exact ⟨by rw [HE.out]; rfl, B.out⟩
end Go.Proofs.YtkpomcimaofkkaaGreatDoor.Rp
namespace Go.Proofs.YtkpomcimaofkkaaGreatDoor.Rp
set_option linter.unusedVariables false
set_option linter.unusedSimpArgs false
open Go.RowKit Go.Lib

theorem run_add {o : Oper} {ρ : Operand → Value} {w : World} {a b : Operand} {x y z : ByteArray} (ho : o.op = .binOp .add 9 a b 9) (ha : ρ a = .string x) (hb : ρ b = .string y) (hz : x.size + y.size ≤ 9223372036854775807) (e : x ++ y = z) : (execOp ρ o).run Tryz.prog w = .ok (.value (.string z)) w := by
  have hn : ¬ (x.size + y.size > 9223372036854775807) := by omega
  have hn2 : ¬ (9223372036854775807 < x.size + y.size) := by omega
  simp [execOp, ho, ha, hb, go_sem, e, hn, hn2]
end Go.Proofs.YtkpomcimaofkkaaGreatDoor.Rp
namespace Go.Proofs.YtkpomcimaofkkaaGreatDoor
set_option linter.unusedVariables false
set_option linter.unusedSimpArgs false
open Go.RowKit

/-- What the reference's token answers. -/
def refTokVal : Except (Nat × Nat) (MTok × Nat) → Value
  | .ok (t, k) => .tuple #[.agg #[.int .i64 t.1, .int .i64 t.2.1, .string t.2.2.1, .int .i64 t.2.2.2], .int .i64 k, .int .i64 0, .int .i64 0]
  | .error (a, y) => .tuple #[.agg #[.int .i64 0, .int .i64 0, .string ByteArray.empty, .int .i64 0], .int .i64 0, .int .i64 a, .int .i64 y]

theorem extract_one {s : ByteArray} {i c : Nat} (hi : i < s.size) (h : bt s i = c) : s.extract i (i + 1) = ⟨#[UInt8.ofNat c]⟩ := by
  have e := extract_bl s i (i + 1) (by omega)
  rw [show i + 1 - i = 1 by omega] at e
  simp only [bl, h] at e
  rw [ByteArray.ext_iff, ← Array.toList_inj, e]

theorem wEnd_from {s : ByteArray} {i k : Nat} (hs : isSm (bt s i) = true) (h : RunEnd isWd s (i + 1) k) : wEnd s i = k := by
  refine (wEnd_is s i).uniq ⟨by have := h.1; omega, fun j h1 h2 => ?_, h.2.2⟩
  by_cases e : j = i
  · rw [e]; simp [isWd, hs]
  · exact h.2.1 j (by omega) h2

theorem refNumber_any (s : ByteArray) (i : Nat) (w : World) (hs : s.size ≤ 20000) (hi : i < s.size) (h : isDg (bt s i) = true ∨ (bt s i = 45 ∧ isDg (bt s (i + 1)) = true)) :
    Calls Tryz.prog 107 #[.string s, .int .i64 i] w fun e w' => e = .returned (refNumVal (numM s i)) ∧ w = w' := by
  by_cases h45 : bt s i = 45
  · have hd : isDg (bt s (i + 1)) = true := by
      rcases h with h | h
      · rw [h45] at h; cases h
      · exact h.2
    have hfl : i + 1 < s.size := by
      by_cases hc : i + 1 < s.size
      · exact hc
      · rw [bt_out hc] at hd; cases hd
    exact (refNumber_neg s i w hs hi h45 hfl hd).mono fun _ _ h => ⟨h.1, h.2.symm⟩
  · have hd : isDg (bt s i) = true := by
      rcases h with h | h
      · exact h
      · exact absurd h.1 h45
    exact (refNumber_pos s i w hs hi h45 hd).mono fun _ _ h => ⟨h.1, h.2.symm⟩

set_option maxRecDepth 100000 in
set_option maxHeartbeats 4000000 in
/-- The reference's token. -/
theorem refToken_any (s : ByteArray) (i : Nat) (w : World) (hs : s.size ≤ 20000) (hi : i < s.size) :
    Calls Tryz.prog 72 #[.string s, .int .i64 i] w fun e w' => e = .returned (refTokVal (tokM s i)) ∧ Below w.heap.size w w' := by
  have hii : (i : Int) < (s.size : Int) := by omega
  by_cases hk : bt s i = 10
  · skip
    have HTK : Hid (tokM s i = .ok (((4 : Int), (i : Int), ⟨#[10]⟩, (0 : Int)), i + 1)) := by
      show tokM s i = _
      unfold tokM; rw [if_neg (by simp [hk, isSm]), if_neg (by simp [hk, isDg]), if_neg (by omega), if_pos hk, extract_one hi hk]; rfl
    have q10 : ((((s[i]'hi).toNat : Nat) : Int) == 10) = true := beq_iff_eq.2 (by rw [bt_get hi, hk]; rfl)
    clear hk
    go_enter Tryz.func72, Tryz.ntmps72
    go_wp2_with (first | (go_at_call 105; refine (at_c _ _ _ (by omega)).mono ?_; rintro e w' ⟨rfl, rfl⟩) | (go_at_call 106; refine (dg_c _ _).mono ?_; rintro e w' ⟨rfl, rfl⟩) | (go_at_call 104; refine (lt_c _ _).mono ?_; rintro e w' ⟨rfl, rfl⟩))
    rw [HTK.out]
    exact bodyPost_ret (v := .tuple #[.agg #[.int .i64 4, .int .i64 i, .string ⟨#[10]⟩, .int .i64 0], .int .i64 ((i + 1 : Nat) : Int), .int .i64 0, .int .i64 0]) (by simp [results, Tryz.results72, go_sem] <;> rfl) rfl ⟨rfl, (Below.refl _ w).alloc (Nat.le_refl _) _⟩
  have h10 := hk
  cases hsm : isSm (bt s i) with
  | true =>
    have hsmv := isSm_iff.1 hsm
    have q10 : ((((s[i]'hi).toNat : Nat) : Int) == 10) = false := beq_eq_false_iff_ne.2 (by rw [bt_get hi]; omega)
    have r0 : isSm (s[i]'hi).toNat = true := by rw [bt_get hi]; exact hsm
    go_enter Tryz.func72, Tryz.ntmps72
    go_wp2_with (first | (go_at_call 105; refine (at_c _ _ _ (by omega)).mono ?_; rintro e w' ⟨rfl, rfl⟩) | (go_at_call 106; refine (dg_c _ _).mono ?_; rintro e w' ⟨rfl, rfl⟩) | (go_at_call 104; refine (lt_c _ _).mono ?_; rintro e w' ⟨rfl, rfl⟩))
    go_loopg [9] (s.size - i) (fun g t wr => ∃ k : Nat, i + 1 ≤ k ∧ k ≤ s.size ∧ s.size - k ≤ g ∧ t = .int .i64 k ∧ wr = w.alloc (.cells #[.int .i64 0, .int .i64 0, .string ByteArray.empty, .int .i64 0] 61) ∧ Aside (∀ j, i + 1 ≤ j → j < k → isWd (bt s j) = true))
    case atStart => exact ⟨i + 1, Nat.le_refl _, by omega, by omega, by go_num, rfl, fun j h1 h2 => by omega⟩
    case round =>
      obtain ⟨k, hk1, hk2, hg, rfl, rfl, A⟩ := hrel
      have hlt_of : ∀ p : Nat → Bool, p 0 = false → p (bt s k) = true → k < s.size := fun p hp h => by
        by_cases hc : k < s.size
        · exact hc
        · rw [bt_out hc, hp] at h; cases h
      cases q1 : isSm (bt s k) with
      | true =>
        have hlt := hlt_of isSm rfl q1
        clear hlt_of
        go_wp2_with (first | (go_at_call 105; refine (at_c _ _ _ (by omega)).mono ?_; rintro e w' ⟨rfl, rfl⟩) | (go_at_call 106; refine (dg_c _ _).mono ?_; rintro e w' ⟨rfl, rfl⟩) | (go_at_call 104; refine (lt_c _ _).mono ?_; rintro e w' ⟨rfl, rfl⟩))
        go_roundg (s.size - (k + 1))
        case measure => omega
        case rel =>
          refine ⟨k + 1, by omega, by omega, by omega, by go_num, rfl, (show Aside _ from fun j h1 h2 => ?_)⟩
          by_cases e : j = k
          · subst e; simp [isWd, q1]
          · exact A.out j h1 (by omega)
      | false =>
        cases q2 : isDg (bt s k) with
        | true =>
          have hlt := hlt_of isDg rfl q2
          clear hlt_of
          go_wp2_with (first | (go_at_call 105; refine (at_c _ _ _ (by omega)).mono ?_; rintro e w' ⟨rfl, rfl⟩) | (go_at_call 106; refine (dg_c _ _).mono ?_; rintro e w' ⟨rfl, rfl⟩) | (go_at_call 104; refine (lt_c _ _).mono ?_; rintro e w' ⟨rfl, rfl⟩))
          go_roundg (s.size - (k + 1))
          case measure => omega
          case rel =>
            refine ⟨k + 1, by omega, by omega, by omega, by go_num, rfl, (show Aside _ from fun j h1 h2 => ?_)⟩
            by_cases e : j = k
            · subst e; simp [isWd, q2]
            · exact A.out j h1 (by omega)
        | false =>
          have HW : Hid (wEnd s i = k) := wEnd_from hsm ⟨hk1, A.out, by simp [isWd, q1, q2]⟩
          have HTK : Hid (tokM s i = .ok (((1 : Int), (i : Int), s.extract i k, (0 : Int)), k)) := by
            show tokM s i = _
            unfold tokM; rw [if_pos hsm, HW.out]
          have hE1 : (i : Int) ≤ (k : Int) := by omega
          have hE2 : (k : Int) ≤ (s.size : Int) := by omega
          clear hlt_of
          go_wp2_with (first | (go_at_call 105; refine (at_c _ _ _ (by omega)).mono ?_; rintro e w' ⟨rfl, rfl⟩) | (go_at_call 106; refine (dg_c _ _).mono ?_; rintro e w' ⟨rfl, rfl⟩) | (go_at_call 104; refine (lt_c _ _).mono ?_; rintro e w' ⟨rfl, rfl⟩))
          rw [HTK.out]
          exact bodyPost_ret (v := .tuple #[.agg #[.int .i64 1, .int .i64 i, .string (s.extract i k), .int .i64 0], .int .i64 ((k : Nat) : Int), .int .i64 0, .int .i64 0]) (by simp [results, Tryz.results72, go_sem] <;> rfl) rfl ⟨rfl, (Below.refl _ w).alloc (Nat.le_refl _) _⟩
  | false =>
    have hsmv := isSm_no.1 hsm
    cases hdg : isDg (bt s i) with
    | true =>
      have hdgv := isDg_iff.1 hdg
      have q10 : ((((s[i]'hi).toNat : Nat) : Int) == 10) = false := beq_eq_false_iff_ne.2 (by rw [bt_get hi]; omega)
      have r0 : isSm (s[i]'hi).toNat = false := by rw [bt_get hi]; exact hsm
      have r1 : isDg (s[i]'hi).toNat = true := by rw [bt_get hi]; exact hdg
      have hnum : bt s i = 45 ∨ isDg (bt s i) = true := .inr hdg
      have hpre : isDg (bt s i) = true ∨ (bt s i = 45 ∧ isDg (bt s (i + 1)) = true) := .inl hdg
      have hnc := refNumber_any s i (w.alloc (.cells #[.int .i64 0, .int .i64 0, .string ByteArray.empty, .int .i64 0] 61)) hs hi hpre
      cases hN : numM s i with
      | ok q =>
        obtain ⟨n, e⟩ := q
        have HTK : Hid (tokM s i = .ok (((2 : Int), (i : Int), s.extract i e, n), e)) := by
          show tokM s i = _
          unfold tokM; rw [if_neg (by simp [hsm]), if_pos hnum, hN]
        have hE := numM_gt hN hi
        have hE1 : (i : Int) ≤ (e : Int) := by omega
        have hE2 : (e : Int) ≤ (s.size : Int) := by omega
        rw [hN] at hnc
        simp only [refNumVal] at hnc
        have HC := hid hnc
        clear hN hnc
        go_enter Tryz.func72, Tryz.ntmps72
        go_wp2_with (first | (go_at_call 105; refine (at_c _ _ _ (by omega)).mono ?_; rintro e w' ⟨rfl, rfl⟩) | (go_at_call 106; refine (dg_c _ _).mono ?_; rintro e w' ⟨rfl, rfl⟩) | (go_at_call 104; refine (lt_c _ _).mono ?_; rintro e w' ⟨rfl, rfl⟩) | (go_at_call 107; refine HC.out.mono ?_; rintro e w' ⟨rfl, rfl⟩))
        rw [HTK.out]
        exact bodyPost_ret (v := .tuple #[.agg #[.int .i64 2, .int .i64 i, .string (s.extract i e), .int .i64 n], .int .i64 ((e : Nat) : Int), .int .i64 0, .int .i64 0]) (by simp [results, Tryz.results72, go_sem] <;> rfl) rfl ⟨rfl, (Below.refl _ w).alloc (Nat.le_refl _) _⟩
      | error q =>
        obtain ⟨a, y⟩ := q
        have HTK : Hid (tokM s i = .error (a, y)) := by
          show tokM s i = _
          unfold tokM; rw [if_neg (by simp [hsm]), if_pos hnum, hN]
        have hy := numM_err hN
        rw [hN] at hnc
        simp only [refNumVal] at hnc
        have HC := hid hnc
        clear hN hnc
        go_enter Tryz.func72, Tryz.ntmps72
        go_wp2_with (first | (go_at_call 105; refine (at_c _ _ _ (by omega)).mono ?_; rintro e w' ⟨rfl, rfl⟩) | (go_at_call 106; refine (dg_c _ _).mono ?_; rintro e w' ⟨rfl, rfl⟩) | (go_at_call 104; refine (lt_c _ _).mono ?_; rintro e w' ⟨rfl, rfl⟩) | (go_at_call 107; refine HC.out.mono ?_; rintro e w' ⟨rfl, rfl⟩))
        rw [HTK.out]
        exact bodyPost_ret (v := .tuple #[.agg #[.int .i64 0, .int .i64 0, .string ByteArray.empty, .int .i64 0], .int .i64 0, .int .i64 ((a : Nat) : Int), .int .i64 ((y : Nat) : Int)]) (by simp [results, Tryz.results72, go_sem] <;> rfl) rfl ⟨rfl, (Below.refl _ w).alloc (Nat.le_refl _) _⟩
    | false =>
      have hdgv := isDg_no.1 hdg
      by_cases h45 : bt s i = 45
      · cases hd1 : isDg (bt s (i + 1)) with
        | true =>
          have q10 : ((((s[i]'hi).toNat : Nat) : Int) == 10) = false := beq_eq_false_iff_ne.2 (by rw [bt_get hi]; omega)
          have r0 : isSm (s[i]'hi).toNat = false := by rw [bt_get hi]; exact hsm
          have r1 : isDg (s[i]'hi).toNat = false := by rw [bt_get hi]; exact hdg
          have q45 : ((((s[i]'hi).toNat : Nat) : Int) == 45) = true := beq_iff_eq.2 (by rw [bt_get hi, h45]; rfl)
          have hnum : bt s i = 45 ∨ isDg (bt s i) = true := .inl h45
          have hpre : isDg (bt s i) = true ∨ (bt s i = 45 ∧ isDg (bt s (i + 1)) = true) := .inr ⟨h45, hd1⟩
          have hnc := refNumber_any s i (w.alloc (.cells #[.int .i64 0, .int .i64 0, .string ByteArray.empty, .int .i64 0] 61)) hs hi hpre
          cases hN : numM s i with
          | ok q =>
            obtain ⟨n, e⟩ := q
            have HTK : Hid (tokM s i = .ok (((2 : Int), (i : Int), s.extract i e, n), e)) := by
              show tokM s i = _
              unfold tokM; rw [if_neg (by simp [hsm]), if_pos hnum, hN]
            have hE := numM_gt hN hi
            have hE1 : (i : Int) ≤ (e : Int) := by omega
            have hE2 : (e : Int) ≤ (s.size : Int) := by omega
            rw [hN] at hnc
            simp only [refNumVal] at hnc
            have HC := hid hnc
            clear hN hnc
            go_enter Tryz.func72, Tryz.ntmps72
            go_wp2_with (first | (go_at_call 105; refine (at_c _ _ _ (by omega)).mono ?_; rintro e w' ⟨rfl, rfl⟩) | (go_at_call 106; refine (dg_c _ _).mono ?_; rintro e w' ⟨rfl, rfl⟩) | (go_at_call 104; refine (lt_c _ _).mono ?_; rintro e w' ⟨rfl, rfl⟩) | (go_at_call 107; refine HC.out.mono ?_; rintro e w' ⟨rfl, rfl⟩))
            rw [HTK.out]
            exact bodyPost_ret (v := .tuple #[.agg #[.int .i64 2, .int .i64 i, .string (s.extract i e), .int .i64 n], .int .i64 ((e : Nat) : Int), .int .i64 0, .int .i64 0]) (by simp [results, Tryz.results72, go_sem] <;> rfl) rfl ⟨rfl, (Below.refl _ w).alloc (Nat.le_refl _) _⟩
          | error q =>
            obtain ⟨a, y⟩ := q
            have HTK : Hid (tokM s i = .error (a, y)) := by
              show tokM s i = _
              unfold tokM; rw [if_neg (by simp [hsm]), if_pos hnum, hN]
            have hy := numM_err hN
            rw [hN] at hnc
            simp only [refNumVal] at hnc
            have HC := hid hnc
            clear hN hnc
            go_enter Tryz.func72, Tryz.ntmps72
            go_wp2_with (first | (go_at_call 105; refine (at_c _ _ _ (by omega)).mono ?_; rintro e w' ⟨rfl, rfl⟩) | (go_at_call 106; refine (dg_c _ _).mono ?_; rintro e w' ⟨rfl, rfl⟩) | (go_at_call 104; refine (lt_c _ _).mono ?_; rintro e w' ⟨rfl, rfl⟩) | (go_at_call 107; refine HC.out.mono ?_; rintro e w' ⟨rfl, rfl⟩))
            rw [HTK.out]
            exact bodyPost_ret (v := .tuple #[.agg #[.int .i64 0, .int .i64 0, .string ByteArray.empty, .int .i64 0], .int .i64 0, .int .i64 ((a : Nat) : Int), .int .i64 ((y : Nat) : Int)]) (by simp [results, Tryz.results72, go_sem] <;> rfl) rfl ⟨rfl, (Below.refl _ w).alloc (Nat.le_refl _) _⟩
        | false =>
          have HTK : Hid (tokM s i = .error (i, 10)) := by
            show tokM s i = _
            unfold tokM; rw [if_neg (by simp [hsm]), if_pos (.inl h45), numM_bad ⟨h45, by
              have := isDg_no.1 hd1
              have hf : nF s i = i + 1 := by unfold nF; rw [if_pos h45]
              rw [hf]; omega⟩]
          have q10 : ((((s[i]'hi).toNat : Nat) : Int) == 10) = false := beq_eq_false_iff_ne.2 (by rw [bt_get hi]; omega)
          have r0 : isSm (s[i]'hi).toNat = false := by rw [bt_get hi]; exact hsm
          have r1 : isDg (s[i]'hi).toNat = false := by rw [bt_get hi]; exact hdg
          have q45 : ((((s[i]'hi).toNat : Nat) : Int) == 45) = true := beq_iff_eq.2 (by rw [bt_get hi, h45]; rfl)
          have q40 : ((((s[i]'hi).toNat : Nat) : Int) == 40) = false := beq_eq_false_iff_ne.2 (by rw [bt_get hi]; omega)
          have q41 : ((((s[i]'hi).toNat : Nat) : Int) == 41) = false := beq_eq_false_iff_ne.2 (by rw [bt_get hi]; omega)
          have q91 : ((((s[i]'hi).toNat : Nat) : Int) == 91) = false := beq_eq_false_iff_ne.2 (by rw [bt_get hi]; omega)
          have q93 : ((((s[i]'hi).toNat : Nat) : Int) == 93) = false := beq_eq_false_iff_ne.2 (by rw [bt_get hi]; omega)
          go_enter Tryz.func72, Tryz.ntmps72
          go_wp2_with (first | (go_at_call 105; refine (at_c _ _ _ (by omega)).mono ?_; rintro e w' ⟨rfl, rfl⟩) | (go_at_call 106; refine (dg_c _ _).mono ?_; rintro e w' ⟨rfl, rfl⟩) | (go_at_call 104; refine (lt_c _ _).mono ?_; rintro e w' ⟨rfl, rfl⟩))
          rw [HTK.out]
          exact bodyPost_ret (v := .tuple #[.agg #[.int .i64 0, .int .i64 0, .string ByteArray.empty, .int .i64 0], .int .i64 0, .int .i64 ((i : Nat) : Int), .int .i64 (10)]) (by simp [results, Tryz.results72, go_sem] <;> rfl) rfl ⟨rfl, (Below.refl _ w).alloc (Nat.le_refl _) _⟩
      by_cases hk : bt s i = 40
      · skip
        have HTK : Hid (tokM s i = .ok (((3 : Int), (i : Int), s.extract i (i + 1), (0 : Int)), i + 1)) := by
          show tokM s i = _
          unfold tokM; rw [if_neg (by simp [hsm]), if_neg (by simp [hdg]; omega), if_pos (by omega)]
        have q10 : ((((s[i]'hi).toNat : Nat) : Int) == 10) = false := beq_eq_false_iff_ne.2 (by rw [bt_get hi]; omega)
        have r0 : isSm (s[i]'hi).toNat = false := by rw [bt_get hi]; exact hsm
        have r1 : isDg (s[i]'hi).toNat = false := by rw [bt_get hi]; exact hdg
        have q45 : ((((s[i]'hi).toNat : Nat) : Int) == 45) = false := beq_eq_false_iff_ne.2 (by rw [bt_get hi]; omega)
        have q40 : ((((s[i]'hi).toNat : Nat) : Int) == 40) = true := beq_iff_eq.2 (by rw [bt_get hi, hk]; rfl)
        have hE1 : (i : Int) ≤ (i : Int) + 1 := by omega
        have hE2 : (i : Int) + 1 ≤ (s.size : Int) := by omega
        go_enter Tryz.func72, Tryz.ntmps72
        go_wp2_with (first | (go_at_call 105; refine (at_c _ _ _ (by omega)).mono ?_; rintro e w' ⟨rfl, rfl⟩) | (go_at_call 106; refine (dg_c _ _).mono ?_; rintro e w' ⟨rfl, rfl⟩) | (go_at_call 104; refine (lt_c _ _).mono ?_; rintro e w' ⟨rfl, rfl⟩))
        rw [HTK.out]
        exact bodyPost_ret (v := .tuple #[.agg #[.int .i64 3, .int .i64 i, .string (s.extract i (i + 1)), .int .i64 0], .int .i64 ((i + 1 : Nat) : Int), .int .i64 0, .int .i64 0]) (by simp [results, Tryz.results72, go_sem] <;> rfl) rfl ⟨rfl, (Below.refl _ w).alloc (Nat.le_refl _) _⟩
      by_cases hk : bt s i = 41
      · skip
        have HTK : Hid (tokM s i = .ok (((3 : Int), (i : Int), s.extract i (i + 1), (0 : Int)), i + 1)) := by
          show tokM s i = _
          unfold tokM; rw [if_neg (by simp [hsm]), if_neg (by simp [hdg]; omega), if_pos (by omega)]
        have q10 : ((((s[i]'hi).toNat : Nat) : Int) == 10) = false := beq_eq_false_iff_ne.2 (by rw [bt_get hi]; omega)
        have r0 : isSm (s[i]'hi).toNat = false := by rw [bt_get hi]; exact hsm
        have r1 : isDg (s[i]'hi).toNat = false := by rw [bt_get hi]; exact hdg
        have q45 : ((((s[i]'hi).toNat : Nat) : Int) == 45) = false := beq_eq_false_iff_ne.2 (by rw [bt_get hi]; omega)
        have q40 : ((((s[i]'hi).toNat : Nat) : Int) == 40) = false := beq_eq_false_iff_ne.2 (by rw [bt_get hi]; omega)
        have q41 : ((((s[i]'hi).toNat : Nat) : Int) == 41) = true := beq_iff_eq.2 (by rw [bt_get hi, hk]; rfl)
        have hE1 : (i : Int) ≤ (i : Int) + 1 := by omega
        have hE2 : (i : Int) + 1 ≤ (s.size : Int) := by omega
        go_enter Tryz.func72, Tryz.ntmps72
        go_wp2_with (first | (go_at_call 105; refine (at_c _ _ _ (by omega)).mono ?_; rintro e w' ⟨rfl, rfl⟩) | (go_at_call 106; refine (dg_c _ _).mono ?_; rintro e w' ⟨rfl, rfl⟩) | (go_at_call 104; refine (lt_c _ _).mono ?_; rintro e w' ⟨rfl, rfl⟩))
        rw [HTK.out]
        exact bodyPost_ret (v := .tuple #[.agg #[.int .i64 3, .int .i64 i, .string (s.extract i (i + 1)), .int .i64 0], .int .i64 ((i + 1 : Nat) : Int), .int .i64 0, .int .i64 0]) (by simp [results, Tryz.results72, go_sem] <;> rfl) rfl ⟨rfl, (Below.refl _ w).alloc (Nat.le_refl _) _⟩
      by_cases hk : bt s i = 91
      · skip
        have HTK : Hid (tokM s i = .ok (((3 : Int), (i : Int), s.extract i (i + 1), (0 : Int)), i + 1)) := by
          show tokM s i = _
          unfold tokM; rw [if_neg (by simp [hsm]), if_neg (by simp [hdg]; omega), if_pos (by omega)]
        have q10 : ((((s[i]'hi).toNat : Nat) : Int) == 10) = false := beq_eq_false_iff_ne.2 (by rw [bt_get hi]; omega)
        have r0 : isSm (s[i]'hi).toNat = false := by rw [bt_get hi]; exact hsm
        have r1 : isDg (s[i]'hi).toNat = false := by rw [bt_get hi]; exact hdg
        have q45 : ((((s[i]'hi).toNat : Nat) : Int) == 45) = false := beq_eq_false_iff_ne.2 (by rw [bt_get hi]; omega)
        have q40 : ((((s[i]'hi).toNat : Nat) : Int) == 40) = false := beq_eq_false_iff_ne.2 (by rw [bt_get hi]; omega)
        have q41 : ((((s[i]'hi).toNat : Nat) : Int) == 41) = false := beq_eq_false_iff_ne.2 (by rw [bt_get hi]; omega)
        have q91 : ((((s[i]'hi).toNat : Nat) : Int) == 91) = true := beq_iff_eq.2 (by rw [bt_get hi, hk]; rfl)
        have hE1 : (i : Int) ≤ (i : Int) + 1 := by omega
        have hE2 : (i : Int) + 1 ≤ (s.size : Int) := by omega
        go_enter Tryz.func72, Tryz.ntmps72
        go_wp2_with (first | (go_at_call 105; refine (at_c _ _ _ (by omega)).mono ?_; rintro e w' ⟨rfl, rfl⟩) | (go_at_call 106; refine (dg_c _ _).mono ?_; rintro e w' ⟨rfl, rfl⟩) | (go_at_call 104; refine (lt_c _ _).mono ?_; rintro e w' ⟨rfl, rfl⟩))
        rw [HTK.out]
        exact bodyPost_ret (v := .tuple #[.agg #[.int .i64 3, .int .i64 i, .string (s.extract i (i + 1)), .int .i64 0], .int .i64 ((i + 1 : Nat) : Int), .int .i64 0, .int .i64 0]) (by simp [results, Tryz.results72, go_sem] <;> rfl) rfl ⟨rfl, (Below.refl _ w).alloc (Nat.le_refl _) _⟩
      by_cases hk : bt s i = 93
      · skip
        have HTK : Hid (tokM s i = .ok (((3 : Int), (i : Int), s.extract i (i + 1), (0 : Int)), i + 1)) := by
          show tokM s i = _
          unfold tokM; rw [if_neg (by simp [hsm]), if_neg (by simp [hdg]; omega), if_pos (by omega)]
        have q10 : ((((s[i]'hi).toNat : Nat) : Int) == 10) = false := beq_eq_false_iff_ne.2 (by rw [bt_get hi]; omega)
        have r0 : isSm (s[i]'hi).toNat = false := by rw [bt_get hi]; exact hsm
        have r1 : isDg (s[i]'hi).toNat = false := by rw [bt_get hi]; exact hdg
        have q45 : ((((s[i]'hi).toNat : Nat) : Int) == 45) = false := beq_eq_false_iff_ne.2 (by rw [bt_get hi]; omega)
        have q40 : ((((s[i]'hi).toNat : Nat) : Int) == 40) = false := beq_eq_false_iff_ne.2 (by rw [bt_get hi]; omega)
        have q41 : ((((s[i]'hi).toNat : Nat) : Int) == 41) = false := beq_eq_false_iff_ne.2 (by rw [bt_get hi]; omega)
        have q91 : ((((s[i]'hi).toNat : Nat) : Int) == 91) = false := beq_eq_false_iff_ne.2 (by rw [bt_get hi]; omega)
        have q93 : ((((s[i]'hi).toNat : Nat) : Int) == 93) = true := beq_iff_eq.2 (by rw [bt_get hi, hk]; rfl)
        have hE1 : (i : Int) ≤ (i : Int) + 1 := by omega
        have hE2 : (i : Int) + 1 ≤ (s.size : Int) := by omega
        go_enter Tryz.func72, Tryz.ntmps72
        go_wp2_with (first | (go_at_call 105; refine (at_c _ _ _ (by omega)).mono ?_; rintro e w' ⟨rfl, rfl⟩) | (go_at_call 106; refine (dg_c _ _).mono ?_; rintro e w' ⟨rfl, rfl⟩) | (go_at_call 104; refine (lt_c _ _).mono ?_; rintro e w' ⟨rfl, rfl⟩))
        rw [HTK.out]
        exact bodyPost_ret (v := .tuple #[.agg #[.int .i64 3, .int .i64 i, .string (s.extract i (i + 1)), .int .i64 0], .int .i64 ((i + 1 : Nat) : Int), .int .i64 0, .int .i64 0]) (by simp [results, Tryz.results72, go_sem] <;> rfl) rfl ⟨rfl, (Below.refl _ w).alloc (Nat.le_refl _) _⟩
      · skip
        have HTK : Hid (tokM s i = .error (i, 10)) := by
          show tokM s i = _
          unfold tokM; rw [if_neg (by simp [hsm]), if_neg (by simp [hdg]; omega), if_neg (by omega), if_neg h10]
        have q10 : ((((s[i]'hi).toNat : Nat) : Int) == 10) = false := beq_eq_false_iff_ne.2 (by rw [bt_get hi]; omega)
        have r0 : isSm (s[i]'hi).toNat = false := by rw [bt_get hi]; exact hsm
        have r1 : isDg (s[i]'hi).toNat = false := by rw [bt_get hi]; exact hdg
        have q45 : ((((s[i]'hi).toNat : Nat) : Int) == 45) = false := beq_eq_false_iff_ne.2 (by rw [bt_get hi]; omega)
        have q40 : ((((s[i]'hi).toNat : Nat) : Int) == 40) = false := beq_eq_false_iff_ne.2 (by rw [bt_get hi]; omega)
        have q41 : ((((s[i]'hi).toNat : Nat) : Int) == 41) = false := beq_eq_false_iff_ne.2 (by rw [bt_get hi]; omega)
        have q91 : ((((s[i]'hi).toNat : Nat) : Int) == 91) = false := beq_eq_false_iff_ne.2 (by rw [bt_get hi]; omega)
        have q93 : ((((s[i]'hi).toNat : Nat) : Int) == 93) = false := beq_eq_false_iff_ne.2 (by rw [bt_get hi]; omega)
        go_enter Tryz.func72, Tryz.ntmps72
        go_wp2_with (first | (go_at_call 105; refine (at_c _ _ _ (by omega)).mono ?_; rintro e w' ⟨rfl, rfl⟩) | (go_at_call 106; refine (dg_c _ _).mono ?_; rintro e w' ⟨rfl, rfl⟩) | (go_at_call 104; refine (lt_c _ _).mono ?_; rintro e w' ⟨rfl, rfl⟩))
        rw [HTK.out]
        exact bodyPost_ret (v := .tuple #[.agg #[.int .i64 0, .int .i64 0, .string ByteArray.empty, .int .i64 0], .int .i64 0, .int .i64 ((i : Nat) : Int), .int .i64 (10)]) (by simp [results, Tryz.results72, go_sem] <;> rfl) rfl ⟨rfl, (Below.refl _ w).alloc (Nat.le_refl _) _⟩
end Go.Proofs.YtkpomcimaofkkaaGreatDoor
