/-
  Walk of the reference's Decimal.
-/
import Derived.Test.YtlkmciegpmpbbaaDoorDec
import Derived.Test.YtlkmciegpmpbbaaDoorR1
import Derived.Laws.IdiomStrings
import Derived.Laws.Concat
namespace Go.Proofs.YtlkmciegpmpbbaaDoor
open Go.RowKit
set_option linter.unusedVariables false
set_option linter.unusedSimpArgs false

theorem one_byte (c : Int) (h0 : 0 ≤ c) (hc : c ≤ 255) (w : World) : (convert 55 9 (.slice (some ⟨w.heap.size, 0, none⟩) 1 1)).run Tryd.prog (w.alloc (.cells #[.int .u8 c] 5)) = .ok (.string ⟨#[UInt8.ofNat c.toNat]⟩) (w.alloc (.cells #[.int .u8 c] 5)) := by
  refine run_convert_bytes_back (w.alloc (.cells #[.int .u8 c] 5)) 55 9 5 ⟨w.heap.size, 0, none⟩ 1 [UInt8.ofNat c.toNat] Tryd.underlying55 Tryd.underlying5 Tryd.underlying9 ?_
  intro j hj
  match j, hj with
  | 0, hj =>
    have : (((UInt8.ofNat c.toNat).toNat : Nat) : Int) = c := by rw [UInt8.toNat_ofNat']; omega
    simp only [List.getElem_cons_zero, this]
    simp [Addr.add]
  | j + 1, hj => simp at hj

theorem size_nil {s : ByteArray} (h : s.data.toList = []) : s.size = 0 := by
  have := congrArg List.length h
  simpa using this

theorem dec_step {g u v : Nat} {s : ByteArray} {b : UInt8} (h : decAcc g u s.data.toList = dec v) (hu : u < 10 ^ g) (hne : s.data.toList = [] → 1 ≤ g) (hc : ¬ (u = 0 ∧ s.data.toList ≠ [])) (hb : b = dg u) :
    ∃ g', g = g' + 1 ∧ u / 10 < 10 ^ g' ∧ decAcc g' (u / 10) ((⟨#[b]⟩ : ByteArray) ++ s).data.toList = dec v := by
  cases g with
  | zero =>
    simp at hu
    subst hu
    by_cases hs : s.data.toList = []
    · have := hne hs; omega
    · exact absurd ⟨rfl, hs⟩ hc
  | succ g =>
    refine ⟨g, rfl, by rw [Nat.pow_succ] at hu; omega, ?_⟩
    rw [← h]
    conv => rhs; unfold decAcc
    rw [if_neg hc, hb]
    simp [ByteArray.data_append]

set_option maxRecDepth 100000 in
set_option maxHeartbeats 2000000 in
theorem digits_walk (v : Nat) (w : World) (hv : v ≤ 9223372036854775808) :
    Calls Tryd.prog 33 #[.int .i64 (-(v : Int))] w fun e w' => (∃ s : ByteArray, e = .returned (.string s) ∧ s.data.toList = dec v) ∧ Below w.heap.size w w' := by
  go_enter Tryd.func33, Tryd.ntmps33
  go_wp2
  go_loopg [0, 3] 20 (fun g n t wr => ∃ (u : Nat) (s : ByteArray), n = .int .i64 (-(u : Int)) ∧ t = .string s ∧ u ≤ v ∧ s.size + g ≤ 20 ∧ Aside (u < 10 ^ g) ∧ Aside (s.data.toList = [] → 1 ≤ g) ∧ Aside (decAcc g u s.data.toList = dec v) ∧ Aside (Below w.heap.size w wr))
  case atStart => exact ⟨v, ⟨#[]⟩, rfl, rfl, Nat.le_refl _, by decide, (show v < 10 ^ 20 by omega), fun _ => by omega, rfl, Below.refl _ _⟩
  case round =>
    obtain ⟨u, s, rfl, rfl, huv, hsl, hu, hne, HD, BW⟩ := hrel
    have hsz := BW.out.size
    by_cases h0 : u = 0
    · subst h0
      by_cases hs : s.data.toList = []
      · have hem : s.toList.isEmpty = true := by rw [ByteArray.toList_eq, hs]; rfl
        obtain ⟨g', hg', a1, a2⟩ := dec_step (b := 48) HD.out hu.out hne.out (by simp [hs]) (by decide)
        have HG := hid hg'
        have HA1 := hid a1
        have HA2 := hid a2
        have c48 : (convert 55 9 (.slice (some ⟨wr.heap.size, 0, none⟩) 1 1)).run Tryd.prog (wr.alloc (.cells #[.int .u8 48] 5)) = .ok (.string ⟨#[48]⟩) (wr.alloc (.cells #[.int .u8 48] 5)) := one_byte 48 (by omega) (by omega) wr
        have hadd : ∀ wx, (Op.stringOp .add ⟨#[48]⟩ s).run Tryd.prog wx = .ok (.string (⟨#[48]⟩ ++ s)) wx := fun wx => run_string_add_sum wx _ _ (by show 1 + s.size ≤ _; omega)
        have hsz1 : ((⟨#[48]⟩ : ByteArray) ++ s).size = 1 + s.size := by simp [ByteArray.size_append]; rfl
        generalize ((⟨#[48]⟩ : ByteArray) ++ s) = s1 at hadd HA2 hsz1
        clear hs hne hg' a1 a2 hu
        go_wp2_with fail
        go_roundg g'
        case measure => have := HG.out; omega
        case rel => exact ⟨0, s1, by go_num, rfl, by omega, by have := HG.out; omega, (by show (0 : Nat) < 10 ^ g'; exact Nat.pow_pos (by omega)), (show Aside _ from fun h => by have := size_nil h; omega), (show Aside _ from HA2.out), BW.out.alloc hsz _⟩
      · have hem : s.toList.isEmpty = false := by
          rw [ByteArray.toList_eq]
          cases h : s.data.toList with
          | nil => exact absurd h hs
          | cons _ _ => rfl
        have HF : Hid (s.data.toList = dec v) := by
          show s.data.toList = dec v
          rw [← HD.out, decAcc_end _ hs]
        clear hs hne hu
        go_wp2_with fail
        go_ret
        exact ⟨⟨s, rfl, HF.out⟩, BW.out⟩
    · have hlt : -(u : Int) < 0 := by omega
      obtain ⟨g', hg', a1, a2⟩ := dec_step (b := UInt8.ofNat (48 + (u : Int) % 10).toNat) HD.out hu.out hne.out (by simp [h0]) (by unfold dg; congr 1)
      have HG := hid hg'
      have HA1 := hid a1
      have HA2 := hid a2
      have cc := one_byte (48 + (u : Int) % 10) (by omega) (by omega) wr
      clear hne hg' a1 a2 hu
      generalize UInt8.ofNat (48 + (u : Int) % 10).toNat = b at HA2 cc
      have hadd : ∀ wx, (Op.stringOp .add ⟨#[b]⟩ s).run Tryd.prog wx = .ok (.string (⟨#[b]⟩ ++ s)) wx := fun wx => run_string_add_sum wx _ _ (by show 1 + s.size ≤ _; omega)
      have hsz1 : ((⟨#[b]⟩ : ByteArray) ++ s).size = 1 + s.size := by simp [ByteArray.size_append]; rfl
      generalize ((⟨#[b]⟩ : ByteArray) ++ s) = s1 at hadd HA2 hsz1
      go_wp2_with fail
      go_roundg g'
      case measure => have := HG.out; omega
      case rel => exact ⟨u / 10, s1, by go_num, rfl, by omega, by have := HG.out; omega, HA1.out, (show Aside _ from fun h => by have := size_nil h; omega), (show Aside _ from HA2.out), BW.out.alloc hsz _⟩

/-- The reference's Decimal. -/
theorem decimal_any (n : Int) (w : World) (h0 : -9223372036854775808 ≤ n) (h1 : n ≤ 9223372036854775807) :
    Calls Tryd.prog 18 #[.int .i64 n] w fun e w' => (∃ s : ByteArray, e = .returned (.string s) ∧ s.data.toList = decimal n) ∧ Below w.heap.size w w' := by
  by_cases hn : 0 ≤ n
  · obtain ⟨v, rfl⟩ := Int.eq_ofNat_of_zero_le hn
    have H := hid (digits_walk v w (by omega))
    have HD : Hid (decimal (v : Int) = dec v) := by show decimal (v : Int) = dec v; unfold decimal; rw [if_pos hn]; simp
    go_enter Tryd.func18, Tryd.ntmps18
    go_wp2_with fail
    refine H.out.mono ?_
    rintro e w1 ⟨⟨s, rfl, hs⟩, hb⟩
    have HS := hid hs
    clear hs
    go_wp2_with fail
    go_ret
    exact ⟨⟨s, rfl, by rw [HS.out, HD.out]⟩, hb⟩
  · obtain ⟨v, hv⟩ : ∃ v : Nat, n = -(v : Int) := ⟨(-n).toNat, by omega⟩
    subst hv
    have H := hid (digits_walk v w (by omega))
    have hn' : ¬ (0 : Int) ≤ -(v : Int) := hn
    have HD : Hid (decimal (-(v : Int)) = 45 :: dec v) := by show decimal (-(v : Int)) = _; unfold decimal; rw [if_neg hn]; simp
    go_enter Tryd.func18, Tryd.ntmps18
    go_wp2_with fail
    refine H.out.mono ?_
    rintro e w1 ⟨⟨s, rfl, hs⟩, hb⟩
    have HS := hid hs
    have hlen : s.size ≤ 20 := by
      have h1 := (dec_len (v := v) (by omega)).2
      have h2 : s.size = s.data.toList.length := by simp
      rw [h2, hs]; exact h1
    have hadd : ∀ wx, (Op.stringOp .add ⟨#[45]⟩ s).run Tryd.prog wx = .ok (.string (⟨#[45]⟩ ++ s)) wx := fun wx => run_string_add_sum wx _ _ (by show 1 + s.size ≤ _; omega)
    clear hs
    go_wp2_with fail
    go_ret
    exact ⟨⟨_, rfl, by rw [HD.out, ← HS.out]; simp [ByteArray.data_append]⟩, hb⟩
end Go.Proofs.YtlkmciegpmpbbaaDoor
