/-
  Walk of the reference's Decimal.
  The document's Print of a report, its parts: a number, a key, one of two words, a label.
  The document's Print of a report: a level's name.
  A sum of strings as one operation of a drawn region.
  report.Parse: how much a report that is read can hold; the panic that is caught.
  The document's reader of a report's text: lines' ends, a level; what is left is no more.
  What is read has small keys; whether a report may be, by the document's words.
  A report that is read and may be: its ints are of 64 bits, its keys are short, it is not long.
-/
import Derived.Test.YtkpomcimaofkkaaDoorV1
import Derived.Test.YtkpomcimaofkkaaDoorV2
import Derived.Laws.IdiomStrings
import Derived.Laws.Concat
import Derived.Test.YtkpomcimaofkkaaDoorV8
import Derived.Lib.AtoiErrMem
import Derived.Lib.SliceRun
import Derived.WalkKit
import Derived.ProofKit
import Derived.Deep.AppendLies
import Derived.WalkMore
import Derived.Deep.QuietTactic
import Derived.BigQuiet
import Derived.Laws.StructEq
import Derived.Recover
namespace Go.Proofs.YtkpomcimaofkkaaDoor
open Go.RowKit
set_option linter.unusedVariables false
set_option linter.unusedSimpArgs false

theorem one_byte (c : Int) (h0 : 0 ≤ c) (hc : c ≤ 255) (w : World) : (convert 31 9 (.slice (some ⟨w.heap.size, 0, none⟩) 1 1)).run Tryd.prog (w.alloc (.cells #[.int .u8 c] 5)) = .ok (.string ⟨#[UInt8.ofNat c.toNat]⟩) (w.alloc (.cells #[.int .u8 c] 5)) := by
  refine run_convert_bytes_back (w.alloc (.cells #[.int .u8 c] 5)) 31 9 5 ⟨w.heap.size, 0, none⟩ 1 [UInt8.ofNat c.toNat] Tryd.underlying31 Tryd.underlying5 Tryd.underlying9 ?_
  intro j hj
  match j, hj with
  | 0, hj =>
    have : (((UInt8.ofNat c.toNat).toNat : Nat) : Int) = c := by rw [UInt8.toNat_ofNat']; omega
    simp only [List.getElem_cons_zero, this]
    simp [Addr.add]
  | j + 1, hj => simp at hj

theorem size_nil {s : ByteArray} (h : s.data.toList = []) : s.size = 0 := by
  have := congrArg List.length h
  simpa using this

theorem dec_step {g u v : Nat} {s : ByteArray} {b : UInt8} (h : decAcc g u s.data.toList = dec v) (hu : u < 10 ^ g) (hne : s.data.toList = [] → 1 ≤ g) (hc : ¬ (u = 0 ∧ s.data.toList ≠ [])) (hb : b = dg u) :
    ∃ g', g = g' + 1 ∧ u / 10 < 10 ^ g' ∧ decAcc g' (u / 10) ((⟨#[b]⟩ : ByteArray) ++ s).data.toList = dec v := by
  cases g with
  | zero =>
    simp at hu
    subst hu
    by_cases hs : s.data.toList = []
    · have := hne hs; omega
    · exact absurd ⟨rfl, hs⟩ hc
  | succ g =>
    refine ⟨g, rfl, by rw [Nat.pow_succ] at hu; omega, ?_⟩
    rw [← h]
    conv => rhs; unfold decAcc
    rw [if_neg hc, hb]
    simp [ByteArray.data_append]

set_option maxRecDepth 100000 in
set_option maxHeartbeats 2000000 in
theorem digits_walk (v : Nat) (w : World) (hv : v ≤ 9223372036854775808) :
    Calls Tryd.prog 48 #[.int .i64 (-(v : Int))] w fun e w' => (∃ s : ByteArray, e = .returned (.string s) ∧ s.data.toList = dec v) ∧ Below w.heap.size w w' := by
  go_enter Tryd.func48, Tryd.ntmps48
  go_wp2
  go_loopg [0, 3] 20 (fun g n t wr => ∃ (u : Nat) (s : ByteArray), n = .int .i64 (-(u : Int)) ∧ t = .string s ∧ u ≤ v ∧ s.size + g ≤ 20 ∧ Aside (u < 10 ^ g) ∧ Aside (s.data.toList = [] → 1 ≤ g) ∧ Aside (decAcc g u s.data.toList = dec v) ∧ Aside (Below w.heap.size w wr))
  case atStart => exact ⟨v, ⟨#[]⟩, rfl, rfl, Nat.le_refl _, by decide, (show v < 10 ^ 20 by omega), fun _ => by omega, rfl, Below.refl _ _⟩
  case round =>
    obtain ⟨u, s, rfl, rfl, huv, hsl, hu, hne, HD, BW⟩ := hrel
    have hsz := BW.out.size
    by_cases h0 : u = 0
    · subst h0
      by_cases hs : s.data.toList = []
      · have hem : s.toList.isEmpty = true := by rw [ByteArray.toList_eq, hs]; rfl
        obtain ⟨g', hg', a1, a2⟩ := dec_step (b := 48) HD.out hu.out hne.out (by simp [hs]) (by decide)
        have HG := hid hg'
        have HA1 := hid a1
        have HA2 := hid a2
        have c48 : (convert 31 9 (.slice (some ⟨wr.heap.size, 0, none⟩) 1 1)).run Tryd.prog (wr.alloc (.cells #[.int .u8 48] 5)) = .ok (.string ⟨#[48]⟩) (wr.alloc (.cells #[.int .u8 48] 5)) := one_byte 48 (by omega) (by omega) wr
        have hadd : ∀ wx, (Op.stringOp .add ⟨#[48]⟩ s).run Tryd.prog wx = .ok (.string (⟨#[48]⟩ ++ s)) wx := fun wx => run_string_add_sum wx _ _ (by show 1 + s.size ≤ _; omega)
        have hsz1 : ((⟨#[48]⟩ : ByteArray) ++ s).size = 1 + s.size := by simp [ByteArray.size_append]; rfl
        generalize ((⟨#[48]⟩ : ByteArray) ++ s) = s1 at hadd HA2 hsz1
        clear hs hne hg' a1 a2 hu
        go_wp2_with fail
        go_roundg g'
        case measure => have := HG.out; omega
        case rel => exact ⟨0, s1, by go_num, rfl, by omega, by have := HG.out; omega, (by show (0 : Nat) < 10 ^ g'; exact Nat.pow_pos (by omega)), (show Aside _ from fun h => by have := size_nil h; omega), (show Aside _ from HA2.out), BW.out.alloc hsz _⟩
      · have hem : s.toList.isEmpty = false := by
          rw [ByteArray.toList_eq]
          cases h : s.data.toList with
          | nil => exact absurd h hs
          | cons _ _ => rfl
        have HF : Hid (s.data.toList = dec v) := by
          show s.data.toList = dec v
          rw [← HD.out, decAcc_end _ hs]
        clear hs hne hu
        go_wp2_with fail
        go_ret
        exact ⟨⟨s, rfl, HF.out⟩, BW.out⟩
    · have hlt : -(u : Int) < 0 := by omega
      obtain ⟨g', hg', a1, a2⟩ := dec_step (b := UInt8.ofNat (48 + (u : Int) % 10).toNat) HD.out hu.out hne.out (by simp [h0]) (by unfold dg; congr 1)
      have HG := hid hg'
      have HA1 := hid a1
      have HA2 := hid a2
      have cc := one_byte (48 + (u : Int) % 10) (by omega) (by omega) wr
      clear hne hg' a1 a2 hu
      generalize UInt8.ofNat (48 + (u : Int) % 10).toNat = b at HA2 cc
      have hadd : ∀ wx, (Op.stringOp .add ⟨#[b]⟩ s).run Tryd.prog wx = .ok (.string (⟨#[b]⟩ ++ s)) wx := fun wx => run_string_add_sum wx _ _ (by show 1 + s.size ≤ _; omega)
      have hsz1 : ((⟨#[b]⟩ : ByteArray) ++ s).size = 1 + s.size := by simp [ByteArray.size_append]; rfl
      generalize ((⟨#[b]⟩ : ByteArray) ++ s) = s1 at hadd HA2 hsz1
      go_wp2_with fail
      go_roundg g'
      case measure => have := HG.out; omega
      case rel => exact ⟨u / 10, s1, by go_num, rfl, by omega, by have := HG.out; omega, HA1.out, (show Aside _ from fun h => by have := size_nil h; omega), (show Aside _ from HA2.out), BW.out.alloc hsz _⟩

/-- The reference's Decimal. -/
theorem decimal_any (n : Int) (w : World) (h0 : -9223372036854775808 ≤ n) (h1 : n ≤ 9223372036854775807) :
    Calls Tryd.prog 35 #[.int .i64 n] w fun e w' => (∃ s : ByteArray, e = .returned (.string s) ∧ s.data.toList = decimal n) ∧ Below w.heap.size w w' := by
  by_cases hn : 0 ≤ n
  · obtain ⟨v, rfl⟩ := Int.eq_ofNat_of_zero_le hn
    have H := hid (digits_walk v w (by omega))
    have HD : Hid (decimal (v : Int) = dec v) := by show decimal (v : Int) = dec v; unfold decimal; rw [if_pos hn]; simp
    go_enter Tryd.func35, Tryd.ntmps35
    go_wp2_with fail
    refine H.out.mono ?_
    rintro e w1 ⟨⟨s, rfl, hs⟩, hb⟩
    have HS := hid hs
    clear hs
    go_wp2_with fail
    go_ret
    exact ⟨⟨s, rfl, by rw [HS.out, HD.out]⟩, hb⟩
  · obtain ⟨v, hv⟩ : ∃ v : Nat, n = -(v : Int) := ⟨(-n).toNat, by omega⟩
    subst hv
    have H := hid (digits_walk v w (by omega))
    have hn' : ¬ (0 : Int) ≤ -(v : Int) := hn
    have HD : Hid (decimal (-(v : Int)) = 45 :: dec v) := by show decimal (-(v : Int)) = _; unfold decimal; rw [if_neg hn]; simp
    go_enter Tryd.func35, Tryd.ntmps35
    go_wp2_with fail
    refine H.out.mono ?_
    rintro e w1 ⟨⟨s, rfl, hs⟩, hb⟩
    have HS := hid hs
    have hlen : s.size ≤ 20 := by
      have h1 := (dec_len (v := v) (by omega)).2
      have h2 : s.size = s.data.toList.length := by simp
      rw [h2, hs]; exact h1
    have hadd : ∀ wx, (Op.stringOp .add ⟨#[45]⟩ s).run Tryd.prog wx = .ok (.string (⟨#[45]⟩ ++ s)) wx := fun wx => run_string_add_sum wx _ _ (by show 1 + s.size ≤ _; omega)
    clear hs
    go_wp2_with fail
    go_ret
    exact ⟨⟨_, rfl, by rw [HD.out, ← HS.out]; simp [ByteArray.data_append]⟩, hb⟩
end Go.Proofs.YtkpomcimaofkkaaDoor
namespace Go.Proofs.YtkpomcimaofkkaaDoor.Rp
set_option linter.unusedVariables false
set_option linter.unusedSimpArgs false
open Go.RowKit Go.Lib

theorem eq_of_data {a b : ByteArray} (h : a.data.toList = b.data.toList) : a = b := by
  apply ByteArray.ext
  exact Array.toList_inj.1 h
/-- A blank, and a text. -/
def spB (x : ByteArray) : ByteArray := ⟨#[32]⟩ ++ x
theorem dnum_is21 (n : Int) (hn : i64R n) (w : World) : Calls Tryd.prog 18 #[.int .i64 n] w fun e w' => e = .returned (.string (spB (decB n))) ∧ Below w.heap.size w w' := by
  have D := hid (decimal_any n w hn.1 hn.2)
  have HS := hid (decB_size hn)
  clear hn
  go_enter Tryd.func18, Tryd.ntmps18
  go_wp2_with fail
  go_at_call 35
  refine D.out.mono ?_
  rintro e w1 ⟨⟨s, rfl, hs⟩, b1⟩
  obtain rfl : s = decB n := eq_of_data hs
  have B1 := hid b1
  have hsz := HS.out
  clear b1 hs
  obtain ⟨d, hd⟩ : ∃ d, decB n = d := ⟨_, rfl⟩
  have HD := hid hd
  rw [hd] at hsz ⊢
  clear hd
  go_wp2_with fail
  go_ret
  exact ⟨by rw [HD.out]; rfl, B1.out⟩
theorem deither_is21 (b : Bool) (y n : ByteArray) (w : World) : Calls Tryd.prog 19 #[.bool b, .string y, .string n] w fun e w' => e = .returned (.string (eiB b y n)) ∧ Below w.heap.size w w' := by
  cases b
  · go_enter Tryd.func19, Tryd.ntmps19
    go_wp2_with fail
    go_ret
    exact ⟨rfl, Below.refl _ _⟩
  · go_enter Tryd.func19, Tryd.ntmps19
    go_wp2_with fail
    go_ret
    exact ⟨rfl, Below.refl _ _⟩
set_option maxHeartbeats 1000000 in
theorem dkey_is21 (k : ByteArray) (hk : k.size ≤ 1000) (w : World) : Calls Tryd.prog 37 #[.string k] w fun e w' => e = .returned (.string (spB (brB k))) ∧ Below w.heap.size w w' := by
  by_cases h : k.toList = []
  · have h2 : k.toList.isEmpty = true := by rw [h]; rfl
    have h3 : k = ⟨#[]⟩ := by
      apply ByteArray.ext
      rw [ByteArray.toList_eq] at h
      exact Array.toList_eq_nil_iff.1 h
    have HE : Hid (spB (brB k) = ⟨#[32, 40, 32, 41]⟩) := by show _ = _; unfold brB; rw [if_pos h]; rfl
    clear h
    go_enter Tryd.func37, Tryd.ntmps37
    go_wp2_with fail
    go_ret
    exact ⟨by rw [HE.out]; rfl, Below.refl _ _⟩
  · have h2 : k.toList.isEmpty = false := by simpa using h
    have HE : Hid (spB (brB k) = ⟨#[32, 40, 32]⟩ ++ k ++ ⟨#[32, 41]⟩) := by
      show _ = _
      unfold brB spB
      rw [if_neg h]
      apply eq_of_data
      simp [ByteArray.data_append]
    clear h
    go_enter Tryd.func37, Tryd.ntmps37
    go_wp2_with fail
    go_ret
    exact ⟨by rw [HE.out]; rfl, Below.refl _ _⟩
set_option maxHeartbeats 1000000 in
theorem dlabelW_is21 (n : Int) (w : World) : Calls Tryd.prog 38 #[.int .i64 n] w fun e w' => e = .returned (.string (wordN labelWs n)) ∧ Below w.heap.size w w' := by
  by_cases h1 : n = 1
  · subst h1
    go_enter Tryd.func38, Tryd.ntmps38
    go_wp2_with fail
    go_ret
    exact ⟨rfl, Below.refl _ _⟩
  by_cases h2 : n = 2
  · subst h2
    go_enter Tryd.func38, Tryd.ntmps38
    go_wp2_with fail
    go_ret
    exact ⟨rfl, Below.refl _ _⟩
  by_cases h4 : n = 4
  · subst h4
    go_enter Tryd.func38, Tryd.ntmps38
    go_wp2_with fail
    go_ret
    exact ⟨rfl, Below.refl _ _⟩
  by_cases h8 : n = 8
  · subst h8
    go_enter Tryd.func38, Tryd.ntmps38
    go_wp2_with fail
    go_ret
    exact ⟨rfl, Below.refl _ _⟩
  have HE : Hid (wordN labelWs n = ⟨#[]⟩) := by
    show _ = _
    unfold wordN
    split
    · rename_i hk
      have hl : labelWs.length = 9 := rfl
      rcases (by omega : n = 0 ∨ n = 3 ∨ n = 5 ∨ n = 6 ∨ n = 7) with rfl | rfl | rfl | rfl | rfl <;> rfl
    · rfl
  have e1 : (n == 1) = false := by simpa using h1
  have e2 : (n == 2) = false := by simpa using h2
  have e4 : (n == 4) = false := by simpa using h4
  have e8 : (n == 8) = false := by simpa using h8
  clear h1 h2 h4 h8
  go_enter Tryd.func38, Tryd.ntmps38
  go_wp2_with fail
  go_ret
  exact ⟨by rw [HE.out]; rfl, Below.refl _ _⟩
end Go.Proofs.YtkpomcimaofkkaaDoor.Rp
namespace Go.Proofs.YtkpomcimaofkkaaDoor.Rp
set_option linter.unusedVariables false
set_option linter.unusedSimpArgs false
open Go.RowKit Go.Lib

theorem dnames_is21 (w : World) : Calls Tryd.prog 39 #[] w fun e w' => e = .returned (.slice (some ⟨w.heap.size, 0, none⟩) 6 6) ∧ w.alloc (.cells (levelWs.map Value.string).toArray 9) = w' := by
  go_enter Tryd.func39, Tryd.ntmps39
  go_wp2_with fail
  go_ret
  exact ⟨rfl, rfl⟩
set_option maxHeartbeats 2000000 in
set_option maxRecDepth 100000 in
theorem dname_is21 (k : Int) (w : World) : Calls Tryd.prog 21 #[.int .i64 k] w fun e w' => e = .returned (.string (nameN k)) ∧ Below w.heap.size w w' := by
  by_cases h0 : k < 0
  · have HE : Hid (nameN k = ⟨#[]⟩) := by
      show _ = _
      unfold nameN levelN
      have : ¬ (0 ≤ k) := by omega
      rw [if_neg (by simp [this])]
    go_enter Tryd.func21, Tryd.ntmps21
    go_wp2_with fail
    go_ret
    exact ⟨by rw [HE.out]; rfl, Below.refl _ _⟩
  by_cases h5 : 5 < k
  · have HE : Hid (nameN k = ⟨#[]⟩) := by
      show _ = _
      unfold nameN levelN
      have : ¬ (k < 6) := by omega
      rw [if_neg (by simp [this])]
    go_enter Tryd.func21, Tryd.ntmps21
    go_wp2_with fail
    go_ret
    exact ⟨by rw [HE.out]; rfl, Below.refl _ _⟩
  obtain ⟨n, rfl⟩ : ∃ n : Nat, k = n := ⟨k.toNat, by omega⟩
  have HE : Hid (nameN n = levelWs.getD n default) := by
    show _ = _
    unfold nameN levelN
    rw [if_pos (by simp; omega)]
    rfl
  have hn : n < 6 := by omega
  have hl : levelWs.length = 6 := rfl
  have hc : (w.alloc (.cells (levelWs.map Value.string).toArray 9)).cell? ⟨w.heap.size, n, none⟩ = some (.string (levelWs.getD n default)) := (words_is w levelWs).cell (by omega)
  have hb := below_box w (.cells (levelWs.map Value.string).toArray 9)
  obtain ⟨W, hW⟩ : ∃ W, w.alloc (.cells (levelWs.map Value.string).toArray 9) = W := ⟨_, rfl⟩
  have D := hid (dnames_is21 w)
  rw [hW] at hc hb D
  have B := hid hb
  generalize levelWs.getD n default = y at hc HE
  clear hb hW hl
  go_enter Tryd.func21, Tryd.ntmps21
  go_wp2_with (go_at_call 39; refine D.out.mono ?_; rintro e w2 ⟨rfl, rfl⟩)
  go_ret
  exact ⟨by rw [HE.out]; rfl, B.out⟩
end Go.Proofs.YtkpomcimaofkkaaDoor.Rp
namespace Go.Proofs.YtkpomcimaofkkaaDoor.Rp
set_option linter.unusedVariables false
set_option linter.unusedSimpArgs false
open Go.RowKit Go.Lib

theorem run_add {o : Oper} {ρ : Operand → Value} {w : World} {a b : Operand} {x y z : ByteArray} (ho : o.op = .binOp .add 9 a b 9) (ha : ρ a = .string x) (hb : ρ b = .string y) (hz : x.size + y.size ≤ 9223372036854775807) (e : x ++ y = z) : (execOp ρ o).run Tryd.prog w = .ok (.value (.string z)) w := by
  have hn : ¬ (x.size + y.size > 9223372036854775807) := by omega
  have hn2 : ¬ (9223372036854775807 < x.size + y.size) := by omega
  simp [execOp, ho, ha, hb, go_sem, e, hn, hn2]
end Go.Proofs.YtkpomcimaofkkaaDoor.Rp
namespace Go.Proofs.YtkpomcimaofkkaaDoor.Rp
set_option linter.unusedVariables false
set_option linter.unusedSimpArgs false
open Go.RowKit Go.Lib

theorem BoxW.cells {w : World} {o : Nat} {t : TypeId} {a b c d e f : Value} (h : BoxW w o t #[a, b, c, d, e, f]) : w.cell? ⟨o, 0, none⟩ = some a ∧ w.cell? ⟨o, 1, none⟩ = some b ∧ w.cell? ⟨o, 2, none⟩ = some c ∧ w.cell? ⟨o, 3, none⟩ = some d ∧ w.cell? ⟨o, 4, none⟩ = some e ∧ w.cell? ⟨o, 5, none⟩ = some f :=
  ⟨h.cell 0, h.cell 1, h.cell 2, h.cell 3, h.cell 4, h.cell 5⟩
end Go.Proofs.YtkpomcimaofkkaaDoor.Rp
namespace Go.Proofs.YtkpomcimaofkkaaDoor.Rp
set_option linter.unusedVariables false
set_option linter.unusedSimpArgs false
open Go.RowKit Go.Lib

set_option maxHeartbeats 2000000 in
theorem dkinds_is (w : World) : Calls Tryd.prog 36 #[] w fun e w' => e = .returned (.slice (some ⟨w.heap.size, 0, none⟩) 11 11) ∧ w.alloc (.cells (rkindWs.map Value.string).toArray 9) = w' := by
  go_enter Tryd.func36, Tryd.ntmps36
  go_wp2_with fail
  go_ret
  exact ⟨rfl, rfl⟩
end Go.Proofs.YtkpomcimaofkkaaDoor.Rp
namespace Go.Proofs.YtkpomcimaofkkaaDoor.Rp
set_option linter.unusedVariables false
set_option linter.unusedSimpArgs false
open Go.RowKit Go.Lib

/-- Small keys. -/
abbrev SmW (x : MW) : Prop := x.2.2.2.1.size ≤ 140737488355328
def SmA (a : MA) : Prop := a.2.2.2.2.1.size ≤ 140737488355328 ∧ ∀ x ∈ a.cyc, SmW x
def SmR (r : MR) : Prop := ∀ a ∈ r.2.2.1, SmA a
/-! Words of places. -/
theorem kind_word_is (k : Int) : ((wordN kindWs k).toList == (⟨#[]⟩ : ByteArray).toList) = (decide (k < 1) || decide (11 < k)) := by
  by_cases h : 1 ≤ k ∧ k ≤ 11
  · obtain ⟨n, rfl⟩ : ∃ n : Nat, k = n := ⟨k.toNat, by omega⟩
    have hr : (decide ((n : Int) < 1) || decide (11 < (n : Int))) = false := by simp; omega
    rw [hr]
    unfold wordN
    rw [if_pos ⟨by omega, by show (n : Int) < 12; omega⟩, ByteArray.toList_eq, ByteArray.toList_eq]
    rcases (by omega : n = 1 ∨ n = 2 ∨ n = 3 ∨ n = 4 ∨ n = 5 ∨ n = 6 ∨ n = 7 ∨ n = 8 ∨ n = 9 ∨ n = 10 ∨ n = 11) with rfl | rfl | rfl | rfl | rfl | rfl | rfl | rfl | rfl | rfl | rfl <;> rfl
  · have hr : (decide (k < 1) || decide (11 < k)) = true := by simp; omega
    rw [hr]
    unfold wordN
    by_cases h2 : 0 ≤ k ∧ k < (kindWs.length : Nat)
    · have h3 : k < 12 := h2.2
      have h0 : k = 0 := by omega
      subst h0
      rw [if_pos h2, ByteArray.toList_eq, ByteArray.toList_eq]
      rfl
    · rw [if_neg h2]; simp
theorem answer_word_is (k : Int) : ((wordN answerWs k).toList == (⟨#[]⟩ : ByteArray).toList) = (decide (k < 0) || decide (3 < k)) := by
  by_cases h2 : 0 ≤ k ∧ k < (answerWs.length : Nat)
  · have h3 : k < 4 := h2.2
    have hr : (decide (k < 0) || decide (3 < k)) = false := by simp; omega
    rw [hr]
    unfold wordN
    rw [if_pos h2, ByteArray.toList_eq, ByteArray.toList_eq]
    rcases (by omega : k = 0 ∨ k = 1 ∨ k = 2 ∨ k = 3) with rfl | rfl | rfl | rfl <;> rfl
  · have h3 : ¬ (0 ≤ k ∧ k < 4) := h2
    have hr : (decide (k < 0) || decide (3 < k)) = true := by simp; omega
    rw [hr]
    unfold wordN
    rw [if_neg h2]; simp
end Go.Proofs.YtkpomcimaofkkaaDoor.Rp
namespace Go.Proofs.YtkpomcimaofkkaaDoor.Rp
set_option linter.unusedVariables false
set_option linter.unusedSimpArgs false
open Go.RowKit Go.Lib

abbrev InW (x : MW) : Prop := i64R x.1 ∧ i64R x.2.1 ∧ i64R x.2.2.2.2.1 ∧ i64R x.2.2.2.2.2.1
def InA (a : MA) : Prop := i64R a.2.1 ∧ i64R a.2.2.1 ∧ i64R a.2.2.2.1 ∧ i64R a.2.2.2.2.2.1 ∧ ∀ x ∈ a.cyc, InW x
def InR (r : MR) : Prop := i64R r.1 ∧ (∀ a ∈ r.2.2.1, InA a) ∧ ∀ n ∈ r.2.2.2.2.2, i64R n
/-- What a dependency, an anomaly, a report that may be are like. -/
theorem wrongD_no {x : MW} (h : wrongD x = false) : (wordN labelWs x.2.2.1).toList ≠ [] ∧ keyN x.2.2.2.1 = true := by
  unfold wrongD at h
  rw [Bool.or_eq_false_iff] at h
  obtain ⟨h1, h2⟩ := h
  rw [list_nil] at h1
  exact ⟨by simpa using h1, by simpa using h2⟩
theorem wrongA_no {a : MA} (h : wrongA a = false) : (wordN kindWs a.1).toList ≠ [] ∧ keyN a.2.2.2.2.1 = true ∧ levelN a.2.2.2.2.2.2.2.2 = true ∧ a.cyc.length ≤ 300 ∧ ∀ x ∈ a.cyc, wrongD x = false := by
  unfold wrongA at h
  simp only [Bool.or_eq_false_iff] at h
  obtain ⟨⟨⟨⟨h1, h2⟩, h3⟩, h4⟩, h5⟩ := h
  rw [list_nil] at h1
  have h4' : (a.cyc.length : Int) ≤ 300 := by simpa using h4
  refine ⟨by simpa using h1, by simpa using h2, by simpa using h3, by omega, fun x hx => ?_⟩
  have := List.any_eq_false.1 h5 x hx
  simpa using this
theorem canR_yes {r : MR} (h : canR r = true) : r.2.2.1.length ≤ 1000 ∧ (∀ a ∈ r.2.2.1, wrongA a = false) ∧ levelN r.2.2.2.1 = true ∧ (wordN answerWs r.2.2.2.2.1).toList ≠ [] ∧ r.2.2.2.2.2.length ≤ 300 ∧ (r.2.2.2.2.1 = 1 ∨ r.2.2.2.2.2 = []) := by
  unfold canR at h
  simp only [Bool.and_eq_true] at h
  obtain ⟨⟨⟨⟨⟨⟨h1, h2⟩, h3⟩, h4⟩, h5⟩, h6⟩, h7⟩ := h
  rw [list_nil] at h5
  simp only [decide_eq_true_eq] at h2 h6
  refine ⟨by omega, fun a ha => ?_, h4, by simpa using h5, by omega, ?_⟩
  · have h3' : r.2.2.1.any wrongA = false := by simpa using h3
    have := List.any_eq_false.1 h3' a ha
    simpa using this
  · rw [Bool.or_eq_true] at h7
    rcases h7 with q | q
    · exact .inl (by simpa using q)
    · exact .inr (List.length_eq_zero_iff.1 (by have : ((r.2.2.2.2.2.length : Nat) : Int) = 0 := by simpa using q
                                                omega))
theorem keyN_yes {s : ByteArray} (h : keyN s = true) : s.toList = [] ∨ (isWordB s = true ∧ s.size ≤ 6) := by
  unfold keyN at h
  rw [Bool.or_eq_true] at h
  rcases h with q | q
  · exact .inl (by simpa using q)
  · unfold keyOk at q
    rw [Bool.and_eq_true] at q
    exact .inr ⟨q.1, by simpa using q.2⟩
theorem keyN_size {s : ByteArray} (h : keyN s = true) : s.size ≤ 1000 := by
  rcases keyN_yes h with q | q
  · rw [ByteArray.toList_eq] at q
    have : s.size = 0 := by show s.data.size = 0; rw [← Array.length_toList, q]; rfl
    omega
  · omega
theorem rng_of {r : MR} (h : canR r = true) (hi : InR r) : RngR r := by
  obtain ⟨h1, h2, h3, h4, h5, h6⟩ := canR_yes h
  refine ⟨hi.1, h1, fun a ha => ?_, h5, hi.2.2⟩
  obtain ⟨q1, q2, q3, q4, q5⟩ := wrongA_no (h2 a ha)
  obtain ⟨i1, i2, i3, i4, i5⟩ := hi.2.1 a ha
  refine ⟨i1, i2, i3, i4, keyN_size q2, q4, fun x hx => ?_⟩
  obtain ⟨d1, d2⟩ := wrongD_no (q5 x hx)
  obtain ⟨j1, j2, j3, j4⟩ := i5 x hx
  exact ⟨j1, j2, j3, j4, keyN_size d2⟩
end Go.Proofs.YtkpomcimaofkkaaDoor.Rp
