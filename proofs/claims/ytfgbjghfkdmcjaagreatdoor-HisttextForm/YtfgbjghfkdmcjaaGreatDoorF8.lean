/-
  Walk of the reference's Decimal.
  Walk of the reference's MayOp.
  Walk of the reference's Can.
  The library's contracts for strings.Repeat, strings.HasPrefix, strings.Trim, strconv.Itoa and strings.Builder, at this program: each is one application of the library's theorem.
  Walks of the code's Print and of the reference's: any tokens as a text.
  A history's tokens: how many, how long; appendOp at any operation.
-/
import Derived.Test.YtfgbjghfkdmcjaaGreatDoorF4
import Derived.Laws.IdiomStrings
import Derived.Laws.Concat
import Derived.Test.YtfgbjghfkdmcjaaGreatDoorF6
import Derived.Shelf.Strings.Builder1
import Derived.Shelf.Strings.Builder2
import Derived.Shelf.Strings.Trim
import Derived.Shelf.Strconv.Itoa0
import Derived.Shelf.Strconv.Itoa1
import Derived.Shelf.LaysM
import Derived.Shelf.Strconv.Itoa2
import Derived.Shelf.Strconv.Itoa3
import Derived.Shelf.Strings.Prefix
import Derived.Shelf.Bits.Mul64
import Derived.Shelf.Strings.Repeat
import Derived.Test.YtfgbjghfkdmcjaaGreatDoorProg
import Derived.Laws.OwnMore
import Derived.Lib.SliceRun
import Derived.Lib.Walk
import Derived.Lib.AppendIntMem
import Derived.Test.YtfgbjghfkdmcjaaGreatDoorF7
namespace Go.Proofs.YtfgbjghfkdmcjaaGreatDoor
open Go.RowKit
set_option linter.unusedVariables false
set_option linter.unusedSimpArgs false

theorem one_byte (c : Int) (h0 : 0 ≤ c) (hc : c ≤ 255) (w : World) : (convert 91 9 (.slice (some ⟨w.heap.size, 0, none⟩) 1 1)).run Tryz.prog (w.alloc (.cells #[.int .u8 c] 5)) = .ok (.string ⟨#[UInt8.ofNat c.toNat]⟩) (w.alloc (.cells #[.int .u8 c] 5)) := by
  refine run_convert_bytes_back (w.alloc (.cells #[.int .u8 c] 5)) 91 9 5 ⟨w.heap.size, 0, none⟩ 1 [UInt8.ofNat c.toNat] Tryz.underlying91 Tryz.underlying5 Tryz.underlying9 ?_
  intro j hj
  match j, hj with
  | 0, hj =>
    have : (((UInt8.ofNat c.toNat).toNat : Nat) : Int) = c := by rw [UInt8.toNat_ofNat']; omega
    simp only [List.getElem_cons_zero, this]
    simp [Addr.add]
  | j + 1, hj => simp at hj

theorem size_nil {s : ByteArray} (h : s.data.toList = []) : s.size = 0 := by
  have := congrArg List.length h
  simpa using this

theorem dec_step {g u v : Nat} {s : ByteArray} {b : UInt8} (h : decAcc g u s.data.toList = dec v) (hu : u < 10 ^ g) (hne : s.data.toList = [] → 1 ≤ g) (hc : ¬ (u = 0 ∧ s.data.toList ≠ [])) (hb : b = dg u) :
    ∃ g', g = g' + 1 ∧ u / 10 < 10 ^ g' ∧ decAcc g' (u / 10) ((⟨#[b]⟩ : ByteArray) ++ s).data.toList = dec v := by
  cases g with
  | zero =>
    simp at hu
    subst hu
    by_cases hs : s.data.toList = []
    · have := hne hs; omega
    · exact absurd ⟨rfl, hs⟩ hc
  | succ g =>
    refine ⟨g, rfl, by rw [Nat.pow_succ] at hu; omega, ?_⟩
    rw [← h]
    conv => rhs; unfold decAcc
    rw [if_neg hc, hb]
    simp [ByteArray.data_append]

set_option maxRecDepth 100000 in
set_option maxHeartbeats 2000000 in
theorem digits_walk (v : Nat) (w : World) (hv : v ≤ 9223372036854775808) :
    Calls Tryz.prog 53 #[.int .i64 (-(v : Int))] w fun e w' => (∃ s : ByteArray, e = .returned (.string s) ∧ s.data.toList = dec v) ∧ Below w.heap.size w w' := by
  go_enter Tryz.func53, Tryz.ntmps53
  go_wp2
  go_loopg [0, 3] 20 (fun g n t wr => ∃ (u : Nat) (s : ByteArray), n = .int .i64 (-(u : Int)) ∧ t = .string s ∧ u ≤ v ∧ s.size + g ≤ 20 ∧ Aside (u < 10 ^ g) ∧ Aside (s.data.toList = [] → 1 ≤ g) ∧ Aside (decAcc g u s.data.toList = dec v) ∧ Aside (Below w.heap.size w wr))
  case atStart => exact ⟨v, ⟨#[]⟩, rfl, rfl, Nat.le_refl _, by decide, (show v < 10 ^ 20 by omega), fun _ => by omega, rfl, Below.refl _ _⟩
  case round =>
    obtain ⟨u, s, rfl, rfl, huv, hsl, hu, hne, HD, BW⟩ := hrel
    have hsz := BW.out.size
    by_cases h0 : u = 0
    · subst h0
      by_cases hs : s.data.toList = []
      · have hem : s.toList.isEmpty = true := by rw [ByteArray.toList_eq, hs]; rfl
        obtain ⟨g', hg', a1, a2⟩ := dec_step (b := 48) HD.out hu.out hne.out (by simp [hs]) (by decide)
        have HG := hid hg'
        have HA1 := hid a1
        have HA2 := hid a2
        have c48 : (convert 91 9 (.slice (some ⟨wr.heap.size, 0, none⟩) 1 1)).run Tryz.prog (wr.alloc (.cells #[.int .u8 48] 5)) = .ok (.string ⟨#[48]⟩) (wr.alloc (.cells #[.int .u8 48] 5)) := one_byte 48 (by omega) (by omega) wr
        have hadd : ∀ wx, (Op.stringOp .add ⟨#[48]⟩ s).run Tryz.prog wx = .ok (.string (⟨#[48]⟩ ++ s)) wx := fun wx => run_string_add_sum wx _ _ (by show 1 + s.size ≤ _; omega)
        have hsz1 : ((⟨#[48]⟩ : ByteArray) ++ s).size = 1 + s.size := by simp [ByteArray.size_append]; rfl
        generalize ((⟨#[48]⟩ : ByteArray) ++ s) = s1 at hadd HA2 hsz1
        clear hs hne hg' a1 a2 hu
        go_wp2_with fail
        go_roundg g'
        case measure => have := HG.out; omega
        case rel => exact ⟨0, s1, by go_num, rfl, by omega, by have := HG.out; omega, (by show (0 : Nat) < 10 ^ g'; exact Nat.pow_pos (by omega)), (show Aside _ from fun h => by have := size_nil h; omega), (show Aside _ from HA2.out), BW.out.alloc hsz _⟩
      · have hem : s.toList.isEmpty = false := by
          rw [ByteArray.toList_eq]
          cases h : s.data.toList with
          | nil => exact absurd h hs
          | cons _ _ => rfl
        have HF : Hid (s.data.toList = dec v) := by
          show s.data.toList = dec v
          rw [← HD.out, decAcc_end _ hs]
        clear hs hne hu
        go_wp2_with fail
        go_ret
        exact ⟨⟨s, rfl, HF.out⟩, BW.out⟩
    · have hlt : -(u : Int) < 0 := by omega
      obtain ⟨g', hg', a1, a2⟩ := dec_step (b := UInt8.ofNat (48 + (u : Int) % 10).toNat) HD.out hu.out hne.out (by simp [h0]) (by unfold dg; congr 1)
      have HG := hid hg'
      have HA1 := hid a1
      have HA2 := hid a2
      have cc := one_byte (48 + (u : Int) % 10) (by omega) (by omega) wr
      clear hne hg' a1 a2 hu
      generalize UInt8.ofNat (48 + (u : Int) % 10).toNat = b at HA2 cc
      have hadd : ∀ wx, (Op.stringOp .add ⟨#[b]⟩ s).run Tryz.prog wx = .ok (.string (⟨#[b]⟩ ++ s)) wx := fun wx => run_string_add_sum wx _ _ (by show 1 + s.size ≤ _; omega)
      have hsz1 : ((⟨#[b]⟩ : ByteArray) ++ s).size = 1 + s.size := by simp [ByteArray.size_append]; rfl
      generalize ((⟨#[b]⟩ : ByteArray) ++ s) = s1 at hadd HA2 hsz1
      go_wp2_with fail
      go_roundg g'
      case measure => have := HG.out; omega
      case rel => exact ⟨u / 10, s1, by go_num, rfl, by omega, by have := HG.out; omega, HA1.out, (show Aside _ from fun h => by have := size_nil h; omega), (show Aside _ from HA2.out), BW.out.alloc hsz _⟩

/-- The reference's Decimal. -/
theorem decimal_any (n : Int) (w : World) (h0 : -9223372036854775808 ≤ n) (h1 : n ≤ 9223372036854775807) :
    Calls Tryz.prog 29 #[.int .i64 n] w fun e w' => (∃ s : ByteArray, e = .returned (.string s) ∧ s.data.toList = decimal n) ∧ Below w.heap.size w w' := by
  by_cases hn : 0 ≤ n
  · obtain ⟨v, rfl⟩ := Int.eq_ofNat_of_zero_le hn
    have H := hid (digits_walk v w (by omega))
    have HD : Hid (decimal (v : Int) = dec v) := by show decimal (v : Int) = dec v; unfold decimal; rw [if_pos hn]; simp
    go_enter Tryz.func29, Tryz.ntmps29
    go_wp2_with fail
    refine H.out.mono ?_
    rintro e w1 ⟨⟨s, rfl, hs⟩, hb⟩
    have HS := hid hs
    clear hs
    go_wp2_with fail
    go_ret
    exact ⟨⟨s, rfl, by rw [HS.out, HD.out]⟩, hb⟩
  · obtain ⟨v, hv⟩ : ∃ v : Nat, n = -(v : Int) := ⟨(-n).toNat, by omega⟩
    subst hv
    have H := hid (digits_walk v w (by omega))
    have hn' : ¬ (0 : Int) ≤ -(v : Int) := hn
    have HD : Hid (decimal (-(v : Int)) = 45 :: dec v) := by show decimal (-(v : Int)) = _; unfold decimal; rw [if_neg hn]; simp
    go_enter Tryz.func29, Tryz.ntmps29
    go_wp2_with fail
    refine H.out.mono ?_
    rintro e w1 ⟨⟨s, rfl, hs⟩, hb⟩
    have HS := hid hs
    have hlen : s.size ≤ 20 := by
      have h1 := (dec_len (v := v) (by omega)).2
      have h2 : s.size = s.data.toList.length := by simp
      rw [h2, hs]; exact h1
    have hadd : ∀ wx, (Op.stringOp .add ⟨#[45]⟩ s).run Tryz.prog wx = .ok (.string (⟨#[45]⟩ ++ s)) wx := fun wx => run_string_add_sum wx _ _ (by show 1 + s.size ≤ _; omega)
    clear hs
    go_wp2_with fail
    go_ret
    exact ⟨⟨_, rfl, by rw [HD.out, ← HS.out]; simp [ByteArray.data_append]⟩, hb⟩
end Go.Proofs.YtfgbjghfkdmcjaaGreatDoor
namespace Go.Proofs.YtfgbjghfkdmcjaaGreatDoor
set_option linter.unusedVariables false
set_option linter.unusedSimpArgs false
open Go.RowKit

set_option maxHeartbeats 4000000 in
set_option maxRecDepth 100000 in
/-- The reference's MayOp. -/
theorem mayOp_any {S : Nat → Prop} (o : MOp) (lv : Value) (w : World) (h : IntsIn S w lv o.list) (hz : o.key.size ≤ 9223372036854775806) :
    Calls Tryz.prog 52 #[.agg #[.int .i64 o.kind, .string o.key, .int .i64 o.value, lv, .bool o.has, .bool o.nl]] w fun e w' => e = .returned (.bool (keyOk o.key && opOk o)) ∧ Below w.heap.size w w' := by
  obtain ⟨k, s, v, l, hs, nl⟩ := o
  obtain ⟨a1, c1, rfl, -⟩ := id h
  clear h
  simp only [MOp.kind, MOp.key, MOp.value, MOp.list, MOp.has, MOp.nl] at *
  have HB : Hid (Below w.heap.size w (w.alloc (.cells #[.int .i64 k, .string s, .int .i64 v, .slice a1 l.length c1, .bool hs, .bool nl] 70))) := (Below.refl _ w).alloc (Nat.le_refl _) _
  have KC : ∀ W, Calls Tryz.prog 69 #[.string s] W fun e w' => e = .returned (.bool (keyOk s)) ∧ W = w' := fun W => (refKey_any s W hz).mono fun _ _ h => ⟨h.1, h.2.symm⟩
  cases kk : keyOk s with
  | false =>
    rw [kk] at KC
    go_enter Tryz.func52, Tryz.ntmps52
    go_wp2_with (go_at_call 69; refine (KC _).mono ?_; rintro e w' ⟨rfl, rfl⟩)
    go_ret
    exact ⟨ret_b rfl, HB.out⟩
  | true =>
  rw [kk] at KC
  rw [Bool.true_and]
  by_cases k1 : k = 1
  · subst k1
    cases q1 : (((l.length : Nat) : Int) == 0) <;> cases hs <;> cases nl <;>
    · go_enter Tryz.func52, Tryz.ntmps52
      go_wp2_with (go_at_call 69; refine (KC _).mono ?_; rintro e w' ⟨rfl, rfl⟩)
      go_ret
      exact ⟨ret_b (by simp only [opOk, len, MOp.kind, MOp.value, MOp.list, MOp.has, MOp.nl, q1]; rfl), HB.out⟩
  by_cases k3 : k = 3
  · subst k3
    cases q1 : (((l.length : Nat) : Int) == 0) <;> cases hs <;> cases nl <;>
    · go_enter Tryz.func52, Tryz.ntmps52
      go_wp2_with (go_at_call 69; refine (KC _).mono ?_; rintro e w' ⟨rfl, rfl⟩)
      go_ret
      exact ⟨ret_b (by simp only [opOk, len, MOp.kind, MOp.value, MOp.list, MOp.has, MOp.nl, q1]; rfl), HB.out⟩
  by_cases k2 : k = 2
  · subst k2
    cases q2 : (v == 0) <;> cases q1 : (((l.length : Nat) : Int) == 0) <;> rcases len40 l with ⟨q4, Q5⟩ | ⟨q4, Q5⟩ <;> cases hs <;> cases nl <;>
    · go_enter Tryz.func52, Tryz.ntmps52
      go_wp2_with (go_at_call 69; refine (KC _).mono ?_; rintro e w' ⟨rfl, rfl⟩)
      go_ret
      exact ⟨ret_b (by simp only [opOk, len, MOp.kind, MOp.value, MOp.list, MOp.has, MOp.nl, q1, q2, Q5.out]; rfl), HB.out⟩
  by_cases k4 : k = 4
  · subst k4
    cases q2 : (v == 0) <;> cases q1 : (((l.length : Nat) : Int) == 0) <;> cases hs <;> cases nl <;>
    · go_enter Tryz.func52, Tryz.ntmps52
      go_wp2_with (go_at_call 69; refine (KC _).mono ?_; rintro e w' ⟨rfl, rfl⟩)
      go_ret
      exact ⟨ret_b (by simp only [opOk, len, MOp.kind, MOp.value, MOp.list, MOp.has, MOp.nl, q1, q2]; rfl), HB.out⟩
  · have e1 : (k == 1) = false := by simpa using k1
    have e2 : (k == 2) = false := by simpa using k2
    have e3 : (k == 3) = false := by simpa using k3
    have e4 : (k == 4) = false := by simpa using k4
    have R : Hid (opOk (k, s, v, l, hs, nl) = false) := by show opOk _ = _; simp [opOk, MOp.kind, e1, e2, e3, e4]
    go_enter Tryz.func52, Tryz.ntmps52
    go_wp2_with (go_at_call 69; refine (KC _).mono ?_; rintro e w' ⟨rfl, rfl⟩)
    go_ret
    exact ⟨ret_b R.out, HB.out⟩
end Go.Proofs.YtfgbjghfkdmcjaaGreatDoor
namespace Go.Proofs.YtfgbjghfkdmcjaaGreatDoor
set_option linter.unusedVariables false
set_option linter.unusedSimpArgs false
open Go.RowKit

/-- Keys of no more bytes than an int tells. -/
def KeysFit (l : List MEv) : Prop := ∀ e ∈ l, ∀ o ∈ e.ops, o.key.size ≤ 9223372036854775806

theorem mem_at {α : Type} [Inhabited α] {l : List α} {k : Nat} (h : k < l.length) : l.getD k default ∈ l := by
  simp [List.getD, List.getElem?_eq_getElem h]

set_option maxHeartbeats 8000000 in
set_option maxRecDepth 100000 in
/-- The reference's Can. -/
theorem refCan_any {S : Nat → Prop} (v : Value) (l : List MEv) (w : World) (hk0 : KeysFit l) (h : EvsIn S w v l) :
    Calls Tryz.prog 28 #[v] w fun e w' => e = .returned (.bool (canM l)) ∧ Below w.heap.size w w' := by
  have HKF := hid hk0
  clear hk0
  obtain ⟨a1, c1, rfl, hbig, k0⟩ := RowsIn.cells h (by omega)
  have HC := hid k0
  clear h k0
  by_cases f1 : 300 < l.length
  · have f1i : 300 < ((l.length : Nat) : Int) := by omega
    have N := hid (can_long f1)
    go_enter Tryz.func28, Tryz.ntmps28
    go_wp2_with fail
    go_ret
    exact ⟨ret_b N.out, Below.refl _ _⟩
  have f1i : ¬ 300 < ((l.length : Nat) : Int) := by omega
  go_enter Tryz.func28, Tryz.ntmps28
  go_wp2_with fail
  clear f1i
  go_loopg [12] l.length (fun g i wr => ∃ k : Nat, k ≤ l.length ∧ l.length - k ≤ g ∧ i = .int .i64 k ∧ Aside (Below w.heap.size w wr) ∧ Aside (∀ j, j < k → evOk (l.getD j default) = true))
  case atStart => exact ⟨0, Nat.zero_le _, by omega, rfl, Below.refl _ _, fun j hj => absurd hj (Nat.not_lt_zero _)⟩
  case round =>
    obtain ⟨k, hk, hg, rfl, BW, A⟩ := hrel
    by_cases hlt : k < l.length
    · have hlti : (k : Int) < (l.length : Int) := by omega
      obtain ⟨b1, o1, cs1, rfl, hb1, _, ⟨ov, rfl, i1⟩, k1⟩ := HC.out k hlt
      have d0 : wr.cell? ⟨b1, o1 + k * 3, none⟩ = _ := (BW.out.cell (p := ⟨b1, o1 + k * 3, none⟩) hb1).trans (k1 0 _ rfl)
      have d1 := (BW.out.cell (p := ⟨b1, o1 + k * 3 + 1, none⟩) hb1).trans (k1 1 _ rfl)
      have d2 := (BW.out.cell (p := ⟨b1, o1 + k * 3 + 2, none⟩) hb1).trans (k1 2 _ rfl)
      clear k1
      have hsz := BW.out.size
      have HBx : Hid (∀ o, Below w.heap.size w (wr.alloc o)) := fun o => BW.out.trans ((below_box wr o).mono hsz)
      have KF := hid (HKF.out _ (mem_at hlt))
      obtain ⟨oa, oc, rfl, _, ro⟩ := RowsIn.cells i1 (by omega)
      have RO := hid ro
      clear i1 ro
      generalize hX : l.getD k default = X at *
      have HX' := hid hX
      clear hX
      obtain ⟨ek, ep, xs⟩ := X
      simp only [MEv.kind, MEv.proc, MEv.ops] at *
      by_cases g1 : ek < 1
      · skip
        have N := hid (can_miss hlt (by rw [HX'.out]; exact ev_no (fun h => by have := h.1; simp only [MEv.kind] at this; omega)))
        go_wp2_with fail
        go_ret
        exact ⟨ret_b N.out, HBx.out _⟩
      by_cases g2 : 4 < ek
      · skip
        have N := hid (can_miss hlt (by rw [HX'.out]; exact ev_no (fun h => by have := h.2.1; simp only [MEv.kind] at this; omega)))
        go_wp2_with fail
        go_ret
        exact ⟨ret_b N.out, HBx.out _⟩
      by_cases g3 : ep < 0
      · skip
        have N := hid (can_miss hlt (by rw [HX'.out]; exact ev_no (fun h => by have := h.2.2.1; simp only [MEv.proc] at this; omega)))
        go_wp2_with fail
        go_ret
        exact ⟨ret_b N.out, HBx.out _⟩
      by_cases g4 : 99 < ep
      · skip
        have N := hid (can_miss hlt (by rw [HX'.out]; exact ev_no (fun h => by have := h.2.2.2.1; simp only [MEv.proc] at this; omega)))
        go_wp2_with fail
        go_ret
        exact ⟨ret_b N.out, HBx.out _⟩
      by_cases g5 : xs.length < 1
      · have g5i : ((xs.length : Nat) : Int) < 1 := by omega
        have N := hid (can_miss hlt (by rw [HX'.out]; exact ev_no (fun h => by have := h.2.2.2.2.1; simp only [MEv.ops] at this; omega)))
        go_wp2_with fail
        go_ret
        exact ⟨ret_b N.out, HBx.out _⟩
      have g5i : ¬ ((xs.length : Nat) : Int) < 1 := by omega
      by_cases g6 : 8 < xs.length
      · have g6i : 8 < ((xs.length : Nat) : Int) := by omega
        have N := hid (can_miss hlt (by rw [HX'.out]; exact ev_no (fun h => by have := h.2.2.2.2.2; simp only [MEv.ops] at this; omega)))
        go_wp2_with fail
        go_ret
        exact ⟨ret_b N.out, HBx.out _⟩
      have g6i : ¬ 8 < ((xs.length : Nat) : Int) := by omega
      have HH : Hid (evHead (ek, ep, xs)) := ⟨by simp only [MEv.kind]; omega, by simp only [MEv.kind]; omega, by simp only [MEv.proc]; omega, by simp only [MEv.proc]; omega, by simp only [MEv.ops]; omega, by simp only [MEv.ops]; omega⟩
      go_wp2_with fail
      clear g1 g2 g3 g4 g5 g6 g5i g6i d0 d1 d2
      go_loopg [49] xs.length (fun g i wq => ∃ q : Nat, q ≤ xs.length ∧ xs.length - q ≤ g ∧ i = .int .i64 q ∧ Aside (Below w.heap.size w wq) ∧ Aside (∀ j, j < q → opKey (xs.getD j default) = true))
      case atStart => exact ⟨0, Nat.zero_le _, by omega, rfl, HBx.out _, fun j hj => absurd hj (Nat.not_lt_zero _)⟩
      case round =>
        obtain ⟨q, hq, hgq, rfl, BQ, AQ⟩ := hrel
        by_cases hlq : q < xs.length
        · have hlqi : (q : Int) < (xs.length : Int) := by omega
          obtain ⟨b2, o2, cs2, rfl, hb2, _, ⟨l1, rfl, i1⟩, k1⟩ := RO.out q hlq
          have e0 : wr.cell? ⟨b2, o2 + q * 6, none⟩ = _ := (BQ.out.cell (p := ⟨b2, o2 + q * 6, none⟩) hb2).trans (k1 0 _ rfl)
          have e1 := (BQ.out.cell (p := ⟨b2, o2 + q * 6 + 1, none⟩) hb2).trans (k1 1 _ rfl)
          have e2 := (BQ.out.cell (p := ⟨b2, o2 + q * 6 + 2, none⟩) hb2).trans (k1 2 _ rfl)
          have e3 := (BQ.out.cell (p := ⟨b2, o2 + q * 6 + 3, none⟩) hb2).trans (k1 3 _ rfl)
          have e4 := (BQ.out.cell (p := ⟨b2, o2 + q * 6 + 4, none⟩) hb2).trans (k1 4 _ rfl)
          have e5 := (BQ.out.cell (p := ⟨b2, o2 + q * 6 + 5, none⟩) hb2).trans (k1 5 _ rfl)
          clear k1
          have hsq := BQ.out.size
          have kf := KF.out _ (mem_at hlq)
          obtain ⟨al1, cl1, rfl, -⟩ := id i1
          have J1 : Hid (∀ o, IntsIn Any (wr.alloc o) _ (xs.getD q default).list) := fun o => i1.keep (keeps_below (BQ.out.trans ((below_box wr o).mono hsq))) (fun _ _ _ => trivial)
          clear i1
          generalize hY : xs.getD q default = Y at *
          have HY' := hid hY
          have KY := hid kf
          clear hY kf
          go_wp2_with fail
          refine (mayOp_any Y _ _ (J1.out _) KY.out).mono ?_
          rintro e w5 ⟨rfl, b5⟩
          have HB5 : Hid (Below w.heap.size w w5) := BQ.out.trans (((below_box wr _).trans (b5.mono (by simp))).mono hsq)
          clear b5
          have ho : opKey Y = (keyOk Y.key && opOk Y) := rfl
          rw [← ho]
          clear ho
          cases q1 : opKey Y with
          | false =>
            have N := hid (can_miss hlt (by rw [HX'.out]; exact ev_miss (k := q) hlq (by show opKey (xs.getD q default) = false; rw [HY'.out]; exact q1)))
            go_wp2_with fail
            go_ret
            exact ⟨ret_b N.out, HB5.out⟩
          | true =>
            go_wp2_with fail
            go_roundg (xs.length - (q + 1))
            case measure => omega
            case rel =>
              refine ⟨q + 1, by omega, by omega, by go_num, HB5.out, (show Aside _ from fun j hj => ?_)⟩
              by_cases e : j = q
              · subst e; rw [HY'.out]; exact q1
              · exact AQ.out j (by omega)
        · have N := hid (ev_hit (e := (ek, ep, xs)) HH.out (fun j hj => AQ.out j (by simp only [MEv.ops] at hj; omega)))
          go_wp2_with fail
          go_roundg (l.length - (k + 1))
          case measure => omega
          case rel =>
            refine ⟨k + 1, by omega, by omega, by go_num, BQ.out, (show Aside _ from fun j hj => ?_)⟩
            by_cases e : j = k
            · subst e; rw [HX'.out]; exact N.out
            · exact A.out j (by omega)
    · have N := hid (can_hit (l := l) (by omega) (fun j hj => A.out j (by omega)))
      go_wp2_with fail
      go_ret
      exact ⟨ret_b N.out, BW.out⟩
end Go.Proofs.YtfgbjghfkdmcjaaGreatDoor
namespace Go.Proofs
open Go.Shelf
def Tryz.lays169_ren : Go.Shelf.Ren := ⟨fun | 169 => 51 | n => n, fun | 70 => 90 | 9 => 9 | 0 => 0 | 72 => 93 | 37 => 91 | 127 => 105 | 3 => 3 | 5 => 5 | n => n, fun | n => n⟩
theorem Tryz.lays169 : Go.Proofs.Lays.n169 Tryz.prog Tryz.lays169_ren := {
  mixed := by kernel_rfl
  f169 := Tryz.func51.trans (congrArg some (by kernel_rfl))
  t0 := Tryz.underlying0
  a0 := Tryz.isAgg0
  z0 := Tryz.sizeOf0
  v0 := Tryz.zeroValue0
  t3 := Tryz.underlying3
  a3 := Tryz.isAgg3
  z3 := Tryz.sizeOf3
  v3 := Tryz.zeroValue3
  t9 := Tryz.underlying9
  a9 := Tryz.isAgg9
  z9 := Tryz.sizeOf9
  v9 := Tryz.zeroValue9
  t37 := Tryz.underlying91
  a37 := Tryz.isAgg91
  z37 := Tryz.sizeOf91
  v37 := Tryz.zeroValue91
  t70 := Tryz.underlying90
  a70 := Tryz.isAgg90
  z70 := Tryz.sizeOf90
  v70 := Tryz.zeroValue90
  t72 := Tryz.underlying93
  a72 := Tryz.isAgg93
  z72 := Tryz.sizeOf93
  v72 := Tryz.zeroValue93
  t127 := Tryz.underlying105
  a127 := Tryz.isAgg105
  z127 := Tryz.sizeOf105
  v127 := Tryz.zeroValue105 }
theorem Tryz.Builder_Extra_169 : Builder.Extra Tryz.prog Tryz.lays169_ren := {
  sizeBuilder := by kernel_rfl
  liesBuilder := by kernel_rfl
  t5 := Tryz.underlying5
  a5 := Tryz.isAgg5
  z5 := Tryz.sizeOf5
  v5 := Tryz.zeroValue5
  infoByte := by kernel_rfl
  cellsByte := by kernel_rfl
  sizeByte := by kernel_rfl
  neB5 := by decide }
open Go.RowKit in
/-- (*strings.Builder).String: "String returns the accumulated string.": WHATEVER THE BUILDER HOLDS. (LAID: no walk: one application.) -/
theorem Tryz.Builder_String_any (B b : Nat) (l : List UInt8) (w : World) (h : Lib.IsBuilder 93 5 B b (Lib.byteCells l) w) (hBw : B ≤ w.heap.size) :
    Calls Tryz.prog 51 #[.pointer (some ⟨b, 0, none⟩)] w fun e w' => e = .returned (.string ⟨l.toArray⟩) ∧ Below B w w' := Any.Builder_String_any Tryz.lays169 Tryz.Builder_Extra_169 B b l w h hBw
def Tryz.laysM171_ren : Go.Shelf.Ren := ⟨fun | 171 => 48 | 243 => 67 | 246 => 78 | 283 => 88 | 284 => 89 | 285 => 90 | 286 => 91 | 129 => 95 | 317 => 94 | 318 => 96 | 319 => 97 | 320 => 98 | 337 => 101 | 338 => 102 | n => n, fun | 3 => 3 | 9 => 9 | 2 => 2 | 4 => 4 | 171 => 118 | 0 => 0 | 53 => 119 | 37 => 91 | 5 => 5 | 173 => 122 | 212 => 132 | 51 => 133 | 20 => 20 | 213 => 134 | 46 => 126 | 232 => 141 | 233 => 142 | n => n, fun | 17 => 2 | 18 => 3 | 19 => 4 | n => n⟩
theorem Tryz.laysM171 : Go.Proofs.LaysM.n171 Tryz.prog Tryz.laysM171_ren := {
  mixed := by kernel_rfl
  f129 := Tryz.func95.trans (congrArg some (by kernel_rfl))
  f171 := Tryz.func48.trans (congrArg some (by kernel_rfl))
  f243 := Tryz.func67.trans (congrArg some (by kernel_rfl))
  f246 := Tryz.func78.trans (congrArg some (by kernel_rfl))
  f283 := Tryz.func88.trans (congrArg some (by kernel_rfl))
  f284 := Tryz.func89.trans (congrArg some (by kernel_rfl))
  f285 := Tryz.func90.trans (congrArg some (by kernel_rfl))
  f286 := Tryz.func91.trans (congrArg some (by kernel_rfl))
  f317 := Tryz.func94.trans (congrArg some (by kernel_rfl))
  f318 := Tryz.func96.trans (congrArg some (by kernel_rfl))
  f319 := Tryz.func97.trans (congrArg some (by kernel_rfl))
  f320 := Tryz.func98.trans (congrArg some (by kernel_rfl))
  f337 := Tryz.func101.trans (congrArg some (by kernel_rfl))
  f338 := Tryz.func102.trans (congrArg some (by kernel_rfl))
  t0 := Tryz.underlying0
  a0 := Tryz.isAgg0
  z0 := Tryz.sizeOf0
  v0 := Tryz.zeroValue0
  t2 := Tryz.underlying2
  a2 := Tryz.isAgg2
  z2 := Tryz.sizeOf2
  v2 := Tryz.zeroValue2
  t3 := Tryz.underlying3
  a3 := Tryz.isAgg3
  z3 := Tryz.sizeOf3
  v3 := Tryz.zeroValue3
  t4 := Tryz.underlying4
  a4 := Tryz.isAgg4
  z4 := Tryz.sizeOf4
  v4 := Tryz.zeroValue4
  t5 := Tryz.underlying5
  a5 := Tryz.isAgg5
  z5 := Tryz.sizeOf5
  v5 := Tryz.zeroValue5
  t9 := Tryz.underlying9
  a9 := Tryz.isAgg9
  z9 := Tryz.sizeOf9
  v9 := Tryz.zeroValue9
  t20 := Tryz.underlying20
  a20 := Tryz.isAgg20
  z20 := Tryz.sizeOf20
  v20 := Tryz.zeroValue20
  t37 := Tryz.underlying91
  a37 := Tryz.isAgg91
  z37 := Tryz.sizeOf91
  v37 := Tryz.zeroValue91
  t46 := Tryz.underlying126
  a46 := Tryz.isAgg126
  z46 := Tryz.sizeOf126
  v46 := Tryz.zeroValue126
  t51 := Tryz.underlying133
  a51 := Tryz.isAgg133
  z51 := Tryz.sizeOf133
  v51 := Tryz.zeroValue133
  t53 := Tryz.underlying119
  a53 := Tryz.isAgg119
  z53 := Tryz.sizeOf119
  v53 := Tryz.zeroValue119
  t171 := Tryz.underlying118
  a171 := Tryz.isAgg118
  z171 := Tryz.sizeOf118
  v171 := Tryz.zeroValue118
  t173 := Tryz.underlying122
  a173 := Tryz.isAgg122
  z173 := Tryz.sizeOf122
  v173 := Tryz.zeroValue122
  t212 := Tryz.underlying132
  a212 := Tryz.isAgg132
  z212 := Tryz.sizeOf132
  v212 := Tryz.zeroValue132
  t213 := Tryz.underlying134
  a213 := Tryz.isAgg134
  z213 := Tryz.sizeOf134
  t232 := Tryz.underlying141
  a232 := Tryz.isAgg141
  z232 := Tryz.sizeOf141
  v232 := Tryz.zeroValue141
  t233 := Tryz.underlying142
  a233 := Tryz.isAgg142
  z233 := Tryz.sizeOf142
  v233 := Tryz.zeroValue142
  g17 := by kernel_rfl
  g18 := by kernel_rfl
  g19 := by kernel_rfl
  i0 := by kernel_rfl
  i2 := by kernel_rfl
  i3 := by kernel_rfl
  i4 := by kernel_rfl
  i5 := by kernel_rfl
  i9 := by kernel_rfl
  i20 := by kernel_rfl
  i37 := by kernel_rfl
  i46 := by kernel_rfl
  i51 := by kernel_rfl
  i53 := by kernel_rfl
  i171 := by kernel_rfl
  i173 := by kernel_rfl
  i212 := by kernel_rfl
  i232 := by kernel_rfl
  i233 := by kernel_rfl
  m17 := by kernel_rfl
  m18 := by kernel_rfl
  m19 := by kernel_rfl }
open Go.RowKit Go.Sort Go.Lib in
/-- strconv.Itoa: "Itoa is equivalent to FormatInt(int64(i), 10).": i's DECIMAL NUMERAL ('Lib.itoa': a '-' where i is negative, then the digits), FOR EVERY int. The world behind the call: the world before it, new blocks behind the heap (the library's 'var a [24]byte'), draws. (LAID: no walk: one application.) -/
theorem Tryz.strconv_Itoa (n : Int) (h0 : -9223372036854775808 ≤ n) (h1 : n ≤ 9223372036854775807) (w : World) (htab : Lib.TabIs Tryz.prog w "internal/strconv.uint64pow10" .u64 Lib.pow10Tab) :
    Calls Tryz.prog 48 #[.int .i64 n] w fun e w' => e = .returned (.string ⟨(Lib.itoa n).toArray⟩) ∧ ∃ k os, w' = grow (w.drewN k) os := Any.strconv_Itoa Tryz.laysM171 n h0 h1 w htab
def Tryz.laysB_ren : Go.Shelf.Ren := ⟨fun | 166 => 50 | 169 => 51 | 240 => 68 | 276 => 79 | 167 => 49 | n => n, fun | 9 => 9 | 3 => 3 | 4 => 4 | 20 => 20 | 0 => 0 | 46 => 126 | 5 => 5 | 72 => 93 | 76 => 95 | 51 => 133 | 53 => 119 | 70 => 90 | 37 => 91 | 75 => 24 | 127 => 105 | 164 => 110 | 80 => 97 | n => n, fun | n => n⟩
theorem Tryz.laysB166 : Go.Proofs.Lays.n166 Tryz.prog Tryz.laysB_ren := {
  mixed := by kernel_rfl
  f166 := Tryz.func50.trans (congrArg some (by kernel_rfl))
  f240 := Tryz.func68.trans (congrArg some (by kernel_rfl))
  f276 := Tryz.func79.trans (congrArg some (by kernel_rfl))
  t0 := Tryz.underlying0
  a0 := Tryz.isAgg0
  z0 := Tryz.sizeOf0
  v0 := Tryz.zeroValue0
  t3 := Tryz.underlying3
  a3 := Tryz.isAgg3
  z3 := Tryz.sizeOf3
  v3 := Tryz.zeroValue3
  t4 := Tryz.underlying4
  a4 := Tryz.isAgg4
  z4 := Tryz.sizeOf4
  v4 := Tryz.zeroValue4
  t9 := Tryz.underlying9
  a9 := Tryz.isAgg9
  z9 := Tryz.sizeOf9
  v9 := Tryz.zeroValue9
  t20 := Tryz.underlying20
  a20 := Tryz.isAgg20
  z20 := Tryz.sizeOf20
  v20 := Tryz.zeroValue20
  t37 := Tryz.underlying91
  a37 := Tryz.isAgg91
  z37 := Tryz.sizeOf91
  v37 := Tryz.zeroValue91
  t70 := Tryz.underlying90
  a70 := Tryz.isAgg90
  z70 := Tryz.sizeOf90
  v70 := Tryz.zeroValue90
  t72 := Tryz.underlying93
  a72 := Tryz.isAgg93
  z72 := Tryz.sizeOf93
  v72 := Tryz.zeroValue93
  t75 := Tryz.underlying24
  a75 := Tryz.isAgg24
  z75 := Tryz.sizeOf24
  v75 := Tryz.zeroValue24
  t164 := Tryz.underlying110
  a164 := Tryz.isAgg110
  z164 := Tryz.sizeOf110
  v164 := Tryz.zeroValue110 }
theorem Tryz.laysB167 : Go.Proofs.Lays.n167 Tryz.prog Tryz.laysB_ren := {
  mixed := by kernel_rfl
  f167 := Tryz.func49.trans (congrArg some (by kernel_rfl))
  f240 := Tryz.func68.trans (congrArg some (by kernel_rfl))
  f276 := Tryz.func79.trans (congrArg some (by kernel_rfl))
  t0 := Tryz.underlying0
  a0 := Tryz.isAgg0
  z0 := Tryz.sizeOf0
  v0 := Tryz.zeroValue0
  t4 := Tryz.underlying4
  a4 := Tryz.isAgg4
  z4 := Tryz.sizeOf4
  v4 := Tryz.zeroValue4
  t5 := Tryz.underlying5
  a5 := Tryz.isAgg5
  z5 := Tryz.sizeOf5
  v5 := Tryz.zeroValue5
  t9 := Tryz.underlying9
  a9 := Tryz.isAgg9
  z9 := Tryz.sizeOf9
  v9 := Tryz.zeroValue9
  t20 := Tryz.underlying20
  a20 := Tryz.isAgg20
  z20 := Tryz.sizeOf20
  v20 := Tryz.zeroValue20
  t37 := Tryz.underlying91
  a37 := Tryz.isAgg91
  z37 := Tryz.sizeOf91
  v37 := Tryz.zeroValue91
  t70 := Tryz.underlying90
  a70 := Tryz.isAgg90
  z70 := Tryz.sizeOf90
  v70 := Tryz.zeroValue90
  t72 := Tryz.underlying93
  a72 := Tryz.isAgg93
  z72 := Tryz.sizeOf93
  v72 := Tryz.zeroValue93
  t75 := Tryz.underlying24
  a75 := Tryz.isAgg24
  z75 := Tryz.sizeOf24
  v75 := Tryz.zeroValue24
  t164 := Tryz.underlying110
  a164 := Tryz.isAgg110
  z164 := Tryz.sizeOf110
  v164 := Tryz.zeroValue110 }
theorem Tryz.Builder_Extra_B : Builder.Extra Tryz.prog Tryz.laysB_ren := {
  sizeBuilder := by kernel_rfl
  liesBuilder := by kernel_rfl
  t5 := Tryz.underlying5
  a5 := Tryz.isAgg5
  z5 := Tryz.sizeOf5
  v5 := Tryz.zeroValue5
  infoByte := by kernel_rfl
  cellsByte := by kernel_rfl
  sizeByte := by kernel_rfl
  neB5 := by decide }
open Go.RowKit in
/-- (*strings.Builder).WriteByte: "WriteByte appends the byte c to b's buffer. The returned error is always nil.": UNDER Go's OWN LIMIT: the new length takes at most 2^47 bytes. (LAID: no walk: one application.) -/
theorem Tryz.Builder_WriteByte (B b : Nat) (bs : List Value) (c : Int) (w : World) (h : Lib.IsBuilder 93 5 B b bs w) (hlen : bs.length + 1 ≤ 140737488355328) (hBw : B ≤ w.heap.size) :
    Calls Tryz.prog 49 #[.pointer (some ⟨b, 0, none⟩), .int .u8 c] w fun e w' => e = .returned .nilIface ∧ (Lib.BuilderAt 93 5 B b (.pointer (some ⟨b, 0, none⟩)) (bs ++ [.int .u8 c]) w' ∧ Below B w w') := Any.Builder_WriteByte Tryz.laysB167 Tryz.Builder_Extra_B B b bs c w h hlen hBw
open Go.RowKit in
/-- (*strings.Builder).WriteString: "WriteString appends the contents of s to b's buffer. It returns the length of s and a nil error.": UNDER Go's OWN LIMIT: the new length takes at most 2^47 bytes. (LAID: no walk: one application.) -/
theorem Tryz.Builder_WriteString (B b : Nat) (bs : List Value) (s : ByteArray) (w : World) (h : Lib.IsBuilder 93 5 B b bs w) (hlen : bs.length + s.size ≤ 140737488355328) (hBw : B ≤ w.heap.size) :
    Calls Tryz.prog 50 #[.pointer (some ⟨b, 0, none⟩), .string s] w fun e w' => e = .returned (.tuple #[.int .i64 s.size, .nilIface]) ∧ (Lib.BuilderAt 93 5 B b (.pointer (some ⟨b, 0, none⟩)) (bs ++ Lib.strCells s) w' ∧ Below B w w') := Any.Builder_WriteString Tryz.laysB166 Tryz.Builder_Extra_B B b bs s w h hlen hBw
end Go.Proofs
namespace Go.Proofs.YtfgbjghfkdmcjaaGreatDoor
set_option linter.unusedVariables false
set_option linter.unusedSimpArgs false
open Go.RowKit Go.Lib

theorem decAcc_digits_eq : ∀ (f u : Nat) (acc : List UInt8), u < 10 ^ f → (u = 0 → acc = [] ∧ 1 ≤ f) → decAcc f u acc = Lib.decDigits u ++ acc
  | 0, u, acc, h, h0 => by simp at h; have := h0 h; omega
  | f + 1, u, acc, h, h0 => by
    have hc : ¬ (u = 0 ∧ acc ≠ []) := fun ⟨a, b⟩ => b (h0 a).1
    unfold decAcc
    rw [if_neg hc]
    by_cases h10 : u < 10
    · rw [show u / 10 = 0 by omega, decAcc_end f (by simp), Lib.decDigits_one h10]
      have : dg u = UInt8.ofNat (48 + u) := by unfold dg; rw [show u % 10 = u by omega]
      rw [this]; rfl
    · rw [decAcc_digits_eq f (u / 10) _ (by rw [Nat.pow_succ] at h; omega) (fun e => by omega)]
      conv => rhs; rw [Lib.decDigits, dif_neg h10]
      simp [dg]

theorem dec_digits_eq {u : Nat} (h : u < 10 ^ 20) : Lib.decDigits u = dec u := by
  unfold dec
  rw [decAcc_digits_eq 20 u [] h (fun _ => ⟨rfl, by omega⟩)]
  simp

theorem itoa_decimal {n : Int} (h0 : -9223372036854775808 ≤ n) (h1 : n ≤ 9223372036854775807) : Lib.itoa n = decimal n := by
  unfold Lib.itoa decimal
  by_cases hn : 0 ≤ n
  · rw [if_neg (by omega), if_pos hn, dec_digits_eq (by omega)]
  · rw [if_pos (by omega), if_neg hn, dec_digits_eq (by omega), show n.natAbs = (-n).toNat by omega]

theorem later_builder {B b : Nat} {bs : List Value} {w w' : World} (h : Lib.IsBuilder 93 5 B b bs w) (hb : Below w.heap.size w w') : Lib.IsBuilder 93 5 B b bs w' := by
  have step : ∀ p, Lib.BuilderAt 93 5 B b p bs w → Lib.BuilderAt 93 5 B b p bs w' := fun p hp => by
    have hlt := hp.lt
    obtain ⟨hB, v, hbk, hown, hne⟩ := hp
    exact ⟨hB, v, (hb.block b hlt).trans hbk, owns_keep hown (fun g hg => hb.block g (hown.lt g hg).2), hne⟩
  rcases h with h | h
  · exact .inl (step _ h)
  · exact .inr (step _ h)

theorem drop_at {l : List MTok} {k : Nat} (h : k < l.length) : l.drop k = l.getD k default :: l.drop (k + 1) := by
  rw [List.drop_eq_getElem_cons h]
  simp [List.getD, List.getElem?_eq_getElem h]

/-- One token more: its text, or its number's. -/
theorem print_word {il : Bool} {bs : List UInt8} {t : MTok} {r : List MTok} {l : List UInt8} (h : bs ++ printL il (t :: r) = l) (hk : t.1 = 1 ∨ t.1 = 3) : (bs ++ (sep il ++ tx t)) ++ printL true r = l := by
  rw [← h]
  conv => rhs; rw [printL, if_pos hk]
  simp
theorem print_num {il : Bool} {bs : List UInt8} {t : MTok} {r : List MTok} {l : List UInt8} (h : bs ++ printL il (t :: r) = l) (hk : t.1 = 2) : (bs ++ (sep il ++ decimal t.2.2.2)) ++ printL true r = l := by
  rw [← h]
  conv => rhs; rw [printL, if_neg (by omega), if_pos hk]
  simp
theorem print_line {il : Bool} {bs : List UInt8} {t : MTok} {r : List MTok} {l : List UInt8} (h : bs ++ printL il (t :: r) = l) (hk : t.1 = 4) : (bs ++ [10]) ++ printL false r = l := by
  rw [← h]
  conv => rhs; rw [printL, if_neg (by omega), if_neg (by omega), if_pos hk]
  simp
theorem print_none {il : Bool} {bs : List UInt8} {t : MTok} {r : List MTok} {l : List UInt8} (h : bs ++ printL il (t :: r) = l) (h1 : ¬ t.1 = 1) (h2 : ¬ t.1 = 2) (h3 : ¬ t.1 = 3) (h4 : ¬ t.1 = 4) : bs ++ printL il r = l := by
  rw [← h]
  conv => rhs; rw [printL, if_neg (by omega), if_neg h2, if_neg h4]

theorem len_of {a b c : List UInt8} {N : Nat} (h : a ++ b = c) (hc : c.length ≤ N) : a.length ≤ N := by
  rw [← h, List.length_append] at hc; omega

theorem word_len {bs : List UInt8} {il : Bool} {X : ByteArray} {r c : List UInt8} {N : Nat} (h : (bs ++ (sep il ++ X.data.toList)) ++ r = c) (hc : c.length ≤ N) : bs.length + (sep il).length + X.size ≤ N := by
  have h1 := len_of h hc
  simp only [List.length_append] at h1
  have e : X.data.toList.length = X.size := Array.length_toList
  omega

/-- The cells of a blank and of a text behind those that there are. -/
theorem cells_word (bs : List UInt8) (x : ByteArray) : (Lib.byteCells bs ++ [.int .u8 32]) ++ Lib.strCells x = Lib.byteCells (bs ++ (sep true ++ x.data.toList)) := by
  simp [Lib.byteCells, Lib.strCells, sep]
theorem cells_first (bs : List UInt8) (x : ByteArray) : Lib.byteCells bs ++ Lib.strCells x = Lib.byteCells (bs ++ (sep false ++ x.data.toList)) := by
  simp [Lib.byteCells, Lib.strCells, sep]
theorem cells_line (bs : List UInt8) : Lib.byteCells bs ++ [.int .u8 10] = Lib.byteCells (bs ++ [10]) := by
  simp [Lib.byteCells]

abbrev Pow10 (w : World) : Prop := Lib.TabIs Tryz.prog w "internal/strconv.uint64pow10" .u64 Lib.pow10Tab

/-- The numbers of number tokens are ints. -/
def NumsOk (l : List MTok) : Prop := ∀ t ∈ l, t.1 = 2 → -9223372036854775808 ≤ t.2.2.2 ∧ t.2.2.2 ≤ 9223372036854775807

set_option maxHeartbeats 4000000 in
set_option maxRecDepth 100000 in
/-- The code's Print. -/
theorem print_any {S : Nat → Prop} (v : Value) (l : List MTok) (w : World) (h : ToksIn S w v l) (htab : Pow10 w) (hN : NumsOk l) (hP : (printL false l).length ≤ 140737488355328) :
    Calls Tryz.prog 27 #[v] w fun e w' => e = .returned (.string ⟨(printL false l).toArray⟩) ∧ Below w.heap.size w w' := by
  have H := hid h
  have HT : Hid (Lib.TabBelow Tryz.prog w.heap.size w "internal/strconv.uint64pow10" .u64 Lib.pow10Tab) := Lib.tabBelow_of_tabIs htab
  have HN := hid hN
  have HL := hid hP
  have hbig : l.length * 40 ≤ 140737488355328 := by obtain ⟨_, _, _, hl, _⟩ := h; exact hl
  obtain ⟨va, vc, rfl, -⟩ := id h
  clear h htab hN hP
  go_enter Tryz.func27, Tryz.ntmps27
  go_wp2_with fail
  go_loopg [4, 10] l.length (fun g fl i wr => ∃ (k : Nat) (il : Bool) (bs : List UInt8), k ≤ l.length ∧ l.length - k ≤ g ∧ i = .int .i64 k ∧ fl = .bool il ∧ Aside (bs ++ printL il (l.drop k) = printL false l) ∧ Aside (Lib.IsBuilder 93 5 w.heap.size w.heap.size (Lib.byteCells bs) wr) ∧ Aside (Below w.heap.size w wr))
  case atStart => exact ⟨0, false, [], Nat.zero_le _, by omega, rfl, rfl, rfl, Lib.fresh_isBuilder 93 5 w, below_box _ _⟩
  case round =>
    obtain ⟨k, il, bs, hk, hg, rfl, rfl, P, BI, B⟩ := hrel
    by_cases hlt : k < l.length
    · have hlti : (k : Int) < (l.length : Int) := by omega
      have t4 := H.out.later (T := Any) B.out (fun _ _ _ => trivial)
      obtain ⟨ao, c, hsl, _, hc⟩ := RowsIn.cells t4 (by omega)
      cases hsl
      obtain ⟨bb, oo, cs, rfl, hbb, _, e1, k1⟩ := hc k hlt
      clear hc t4
      unfold TokRow at e1
      subst e1
      have p0 := P.out
      rw [drop_at hlt] at p0
      have n0 := HN.out _ (mem_at hlt)
      have d0 : wr.cell? ⟨bb, oo + k * 4, none⟩ = _ := k1 0 _ rfl
      have d1 := k1 1 _ rfl
      have d2 := k1 2 _ rfl
      have d3 := k1 3 _ rfl
      clear k1 P
      generalize l.getD k default = t at *
      obtain ⟨x0, x1, x2, x3⟩ := t
      have hBs : w.heap.size ≤ wr.heap.size := B.out.size
      have hBox : ∀ o, Below w.heap.size w (wr.alloc o) := fun o => B.out.trans ((below_box wr o).mono hBs)
      have HBox := hid hBox
      have HBI : Hid (∀ o, Lib.IsBuilder 93 5 w.heap.size w.heap.size (Lib.byteCells bs) (wr.alloc o)) := fun o => later_builder BI.out (below_box wr o)
      clear hBox BI
      by_cases c1 : x0 = 1
      · subst c1
        have PT := hid (print_word (t := (1, x1, x2, x3)) p0 (by simp))
        clear p0 n0
        cases il with
        | false =>
          go_wp2_with fail
          have hl0 : bs.length + (sep false).length + x2.size ≤ 140737488355328 := word_len PT.out HL.out
          refine (Tryz.Builder_WriteString w.heap.size w.heap.size (Lib.byteCells bs) x2 _ (HBI.out _) (by rw [Lib.byteCells_length]; omega) (HBox.out _).size).mono ?_
          rintro e w6 ⟨rfl, A6, b6⟩
          have HB6 : Hid (Below w.heap.size w w6) := (HBox.out _).trans b6
          rw [cells_first] at A6
          have HA6 := hid A6
          clear A6 b6
          go_wp2_with fail
          go_roundg (l.length - (k + 1))
          case measure => omega
          case rel => exact ⟨k + 1, true, _, by omega, by omega, by go_num, rfl, PT.out, .inr HA6.out, HB6.out⟩
        | true =>
          go_wp2_with fail
          have hl0 : bs.length + (sep true).length + x2.size ≤ 140737488355328 := word_len PT.out HL.out
          refine (Tryz.Builder_WriteByte w.heap.size w.heap.size (Lib.byteCells bs) 32 _ (HBI.out _) (by rw [Lib.byteCells_length]; have : (sep true).length = 1 := rfl; omega) (HBox.out _).size).mono ?_
          rintro e w5 ⟨rfl, A5, b5⟩
          have HA5 := hid A5
          have HB5 : Hid (Below w.heap.size w w5) := (HBox.out _).trans b5
          clear A5 b5
          go_wp2_with fail
          refine (Tryz.Builder_WriteString w.heap.size w.heap.size (Lib.byteCells bs ++ [.int .u8 32]) x2 _ (.inr HA5.out) (by rw [List.length_append, Lib.byteCells_length]; have : (sep true).length = 1 := rfl; show bs.length + 1 + _ ≤ _; omega) HB5.out.size).mono ?_
          rintro e w6 ⟨rfl, A6, b6⟩
          have HB6 : Hid (Below w.heap.size w w6) := HB5.out.trans b6
          rw [cells_word] at A6
          have HA6 := hid A6
          clear A6 b6
          go_wp2_with fail
          go_roundg (l.length - (k + 1))
          case measure => omega
          case rel => exact ⟨k + 1, true, _, by omega, by omega, by go_num, rfl, PT.out, .inr HA6.out, HB6.out⟩
      by_cases c3 : x0 = 3
      · subst c3
        have PT := hid (print_word (t := (3, x1, x2, x3)) p0 (by simp))
        clear p0 n0
        cases il with
        | false =>
          go_wp2_with fail
          have hl0 : bs.length + (sep false).length + x2.size ≤ 140737488355328 := word_len PT.out HL.out
          refine (Tryz.Builder_WriteString w.heap.size w.heap.size (Lib.byteCells bs) x2 _ (HBI.out _) (by rw [Lib.byteCells_length]; omega) (HBox.out _).size).mono ?_
          rintro e w6 ⟨rfl, A6, b6⟩
          have HB6 : Hid (Below w.heap.size w w6) := (HBox.out _).trans b6
          rw [cells_first] at A6
          have HA6 := hid A6
          clear A6 b6
          go_wp2_with fail
          go_roundg (l.length - (k + 1))
          case measure => omega
          case rel => exact ⟨k + 1, true, _, by omega, by omega, by go_num, rfl, PT.out, .inr HA6.out, HB6.out⟩
        | true =>
          go_wp2_with fail
          have hl0 : bs.length + (sep true).length + x2.size ≤ 140737488355328 := word_len PT.out HL.out
          refine (Tryz.Builder_WriteByte w.heap.size w.heap.size (Lib.byteCells bs) 32 _ (HBI.out _) (by rw [Lib.byteCells_length]; have : (sep true).length = 1 := rfl; omega) (HBox.out _).size).mono ?_
          rintro e w5 ⟨rfl, A5, b5⟩
          have HA5 := hid A5
          have HB5 : Hid (Below w.heap.size w w5) := (HBox.out _).trans b5
          clear A5 b5
          go_wp2_with fail
          refine (Tryz.Builder_WriteString w.heap.size w.heap.size (Lib.byteCells bs ++ [.int .u8 32]) x2 _ (.inr HA5.out) (by rw [List.length_append, Lib.byteCells_length]; have : (sep true).length = 1 := rfl; show bs.length + 1 + _ ≤ _; omega) HB5.out.size).mono ?_
          rintro e w6 ⟨rfl, A6, b6⟩
          have HB6 : Hid (Below w.heap.size w w6) := HB5.out.trans b6
          rw [cells_word] at A6
          have HA6 := hid A6
          clear A6 b6
          go_wp2_with fail
          go_roundg (l.length - (k + 1))
          case measure => omega
          case rel => exact ⟨k + 1, true, _, by omega, by omega, by go_num, rfl, PT.out, .inr HA6.out, HB6.out⟩
      by_cases c2 : x0 = 2
      · subst c2
        obtain ⟨n1, n2⟩ := n0 rfl
        have hIt := itoa_decimal n1 n2
        simp only at n1 n2 hIt
        have p1 := print_num (t := (2, x1, x2, x3)) p0 rfl
        simp only at p1
        rw [← hIt] at p1
        have PT := hid p1
        clear p0 n0 p1 hIt
        have n3 : ((2 : Int) == 1) = false := rfl
        have HI := fun W hW => Tryz.strconv_Itoa x3 n1 n2 W hW
        clear n1 n2
        go_wp2_with fail
        refine (HI _ (HT.out _ (HBox.out _))).mono ?_
        rintro e w4 ⟨rfl, q4, os4, rfl⟩
        generalize hX : (⟨(Lib.itoa x3).toArray⟩ : ByteArray) = X
        have hXl : X.data.toList = Lib.itoa x3 := by rw [← hX]
        rw [← hXl] at PT
        clear hX hXl HI
        cases il with
        | false =>
          go_wp2_with fail
          have hl0 : bs.length + (sep false).length + X.size ≤ 140737488355328 := word_len PT.out HL.out
          refine (Tryz.Builder_WriteString w.heap.size w.heap.size (Lib.byteCells bs) X _ (later_builder (HBI.out _) (Lib.below_grow _ _ (Nat.le_refl _) _ _)) (by rw [Lib.byteCells_length]; omega) ((HBox.out _).trans (Lib.below_grow _ _ (HBox.out _).size _ _)).size).mono ?_
          rintro e w6 ⟨rfl, A6, b6⟩
          have HB6 : Hid (Below w.heap.size w w6) := ((HBox.out _).trans (Lib.below_grow _ _ (HBox.out _).size _ _)).trans b6
          rw [cells_first] at A6
          have HA6 := hid A6
          clear A6 b6
          go_wp2_with fail
          go_roundg (l.length - (k + 1))
          case measure => omega
          case rel => exact ⟨k + 1, true, _, by omega, by omega, by go_num, rfl, PT.out, .inr HA6.out, HB6.out⟩
        | true =>
          go_wp2_with fail
          have hl0 : bs.length + (sep true).length + X.size ≤ 140737488355328 := word_len PT.out HL.out
          refine (Tryz.Builder_WriteByte w.heap.size w.heap.size (Lib.byteCells bs) 32 _ (later_builder (HBI.out _) (Lib.below_grow _ _ (Nat.le_refl _) _ _)) (by rw [Lib.byteCells_length]; have : (sep true).length = 1 := rfl; omega) ((HBox.out _).trans (Lib.below_grow _ _ (HBox.out _).size _ _)).size).mono ?_
          rintro e w5 ⟨rfl, A5, b5⟩
          have HA5 := hid A5
          have HB5 : Hid (Below w.heap.size w w5) := ((HBox.out _).trans (Lib.below_grow _ _ (HBox.out _).size _ _)).trans b5
          clear A5 b5
          go_wp2_with fail
          refine (Tryz.Builder_WriteString w.heap.size w.heap.size (Lib.byteCells bs ++ [.int .u8 32]) X _ (.inr HA5.out) (by rw [List.length_append, Lib.byteCells_length]; have : (sep true).length = 1 := rfl; show bs.length + 1 + _ ≤ _; omega) HB5.out.size).mono ?_
          rintro e w6 ⟨rfl, A6, b6⟩
          have HB6 : Hid (Below w.heap.size w w6) := HB5.out.trans b6
          rw [cells_word] at A6
          have HA6 := hid A6
          clear A6 b6
          go_wp2_with fail
          go_roundg (l.length - (k + 1))
          case measure => omega
          case rel => exact ⟨k + 1, true, _, by omega, by omega, by go_num, rfl, PT.out, .inr HA6.out, HB6.out⟩
      by_cases c4 : x0 = 4
      · subst c4
        have PT := hid (print_line (t := (4, x1, x2, x3)) p0 rfl)
        clear p0 n0
        go_wp2_with fail
        have hl0 : bs.length + 1 ≤ 140737488355328 := by have := len_of PT.out HL.out; rw [List.length_append] at this; exact this
        refine (Tryz.Builder_WriteByte w.heap.size w.heap.size (Lib.byteCells bs) 10 _ (HBI.out _) (by rw [Lib.byteCells_length]; exact hl0) (HBox.out _).size).mono ?_
        rintro e w5 ⟨rfl, A5, b5⟩
        rw [cells_line] at A5
        have HA5 := hid A5
        have HB5 : Hid (Below w.heap.size w w5) := (HBox.out _).trans b5
        clear A5 b5
        go_wp2_with fail
        go_roundg (l.length - (k + 1))
        case measure => omega
        case rel => exact ⟨k + 1, false, _, by omega, by omega, by go_num, rfl, PT.out, .inr HA5.out, HB5.out⟩
      have PT := hid (print_none (t := (x0, x1, x2, x3)) p0 c1 c2 c3 c4)
      clear p0 n0
      have e1 : (x0 == 1) = false := by simpa using c1
      have e2 : (x0 == 2) = false := by simpa using c2
      have e3 : (x0 == 3) = false := by simpa using c3
      have e4 : (x0 == 4) = false := by simpa using c4
      go_wp2_with fail
      go_roundg (l.length - (k + 1))
      case measure => omega
      case rel => exact ⟨k + 1, il, bs, by omega, by omega, by go_num, rfl, PT.out, HBI.out _, HBox.out _⟩
    · have hk' : k = l.length := by omega
      subst hk'
      have hbs : bs = printL false l := by have := P.out; rw [List.drop_length] at this; simpa [printL] using this
      subst hbs
      clear P
      have HBs : w.heap.size ≤ wr.heap.size := B.out.size
      go_wp2_with fail
      refine (Tryz.Builder_String_any w.heap.size w.heap.size (printL false l) _ BI.out HBs).mono ?_
      rintro e w7 ⟨rfl, b7⟩
      go_wp2_with fail
      go_ret
      exact ⟨rfl, B.out.trans b7⟩
end Go.Proofs.YtfgbjghfkdmcjaaGreatDoor
namespace Go.Proofs.YtfgbjghfkdmcjaaGreatDoor
set_option linter.unusedVariables false
set_option linter.unusedSimpArgs false
open Go.RowKit

/-- appendOp at any operation that may be. -/
theorem appendOp_any (B : Nat) (o : MOp) (lv : Value) (v : Value) (l : List MTok) (w : World) (hk : 1 ≤ o.kind ∧ o.kind ≤ 4) (hB : B ≤ w.heap.size) (own : w.ownsRow B 51 4 v l.length (flat l)) (hroom : (l.length + o.list.length + 10) * 40 ≤ 140737488355328) (hl : IntsIn (fun b => b < B) w lv o.list) :
    Calls Tryz.prog 26 #[v, .agg #[.int .i64 o.kind, .string o.key, .int .i64 o.value, lv, .bool o.has, .bool o.nl]] w fun e w' => ∃ v', e = .returned v' ∧ w'.ownsRow B 51 4 v' (l ++ opT o).length (flat (l ++ opT o)) ∧ Below B w w' ∧ (∀ k, k < w.heap.size → some k ≠ v.ownBlock → w'.heap[k]? = w.heap[k]?) ∧ ∀ g, v'.ownBlock = some g → v.ownBlock = some g ∨ w.heap.size ≤ g := by
  obtain ⟨k, s, vl, il, hs, nl⟩ := o
  simp only [MOp.kind, MOp.key, MOp.value, MOp.list, MOp.has, MOp.nl] at *
  have h4 : k = 1 ∨ k = 2 ∨ k = 3 ∨ k = 4 := by omega
  rcases h4 with rfl | rfl | rfl | rfl
  · exact appendOp_1 B s vl il hs nl lv v l w hB own hroom hl
  · exact appendOp_2 B s vl il hs nl lv v l w hB own hroom hl
  · exact appendOp_3 B s vl il hs nl lv v l w hB own hroom hl
  · exact appendOp_4 B s vl il hs nl lv v l w hB own hroom hl

def toksOf (l : List MEv) : List MTok := l.flatMap evT

theorem opOk_list {o : MOp} (h : opOk o = true) : o.list.length ≤ 40 ∧ 1 ≤ o.kind ∧ o.kind ≤ 4 := by
  unfold opOk at h
  split at h
  · rename_i hk
    simp only [Bool.or_eq_true, beq_iff_eq] at hk
    simp only [Bool.and_eq_true, beq_iff_eq, len] at h
    refine ⟨?_, ?_, ?_⟩
    · omega
    · rcases hk with e | e <;> rw [e] <;> omega
    · rcases hk with e | e <;> rw [e] <;> omega
  · split at h
    · rename_i hk
      simp only [beq_iff_eq] at hk
      simp only [Bool.and_eq_true, beq_iff_eq, decide_eq_true_eq, len] at h
      refine ⟨?_, ?_, ?_⟩
      · omega
      · rw [hk]; omega
      · rw [hk]; omega
    · split at h
      · rename_i hk
        simp only [beq_iff_eq] at hk
        simp only [Bool.and_eq_true, beq_iff_eq, len] at h
        refine ⟨?_, ?_, ?_⟩
        · omega
        · rw [hk]; omega
        · rw [hk]; omega
      · cases h
theorem midT_len (o : MOp) : (midT o).length ≤ o.list.length + 2 := by
  unfold midT
  split
  · simp
  · split
    · simp
    · split
      · simp
      · split <;> simp
theorem opT_len (o : MOp) : (opT o).length ≤ o.list.length + 6 := by
  have := midT_len o
  unfold opT
  simp only [List.length_append, List.length_cons, List.length_nil]
  omega
theorem ops_len : ∀ (xs : List MOp), (∀ o ∈ xs, o.list.length ≤ 40) → (xs.flatMap opT).length ≤ xs.length * 46
  | [], _ => by simp
  | o :: xs, h => by
    have h1 := opT_len o
    have h2 := h o (by simp)
    have h3 := ops_len xs (fun x hx => h x (by simp [hx]))
    rw [List.flatMap_cons, List.length_append, List.length_cons]
    omega
theorem ev_parts {e : MEv} (h : evOk e = true) : evHead e ∧ ∀ o ∈ e.ops, keyOk o.key = true ∧ opOk o = true := by
  unfold evOk at h
  simp only [Bool.and_eq_true, decide_eq_true_eq, List.all_eq_true, opKey] at h
  exact ⟨h.1, h.2⟩
theorem evT_len {e : MEv} (h : evOk e = true) : (evT e).length ≤ 371 := by
  obtain ⟨h1, h2⟩ := ev_parts h
  have h3 := ops_len e.ops (fun o ho => (opOk_list (h2 o ho).2).1)
  have h8 := h1.2.2.2.2.2
  unfold evT
  simp only [List.length_append, List.length_cons, List.length_nil]
  omega
theorem toks_len : ∀ (l : List MEv), (∀ e ∈ l, evOk e = true) → (toksOf l).length ≤ l.length * 371
  | [], _ => by simp [toksOf]
  | e :: l, h => by
    have h1 := evT_len (h e (by simp))
    have h2 := toks_len l (fun x hx => h x (by simp [hx]))
    unfold toksOf at h2 ⊢
    rw [List.flatMap_cons, List.length_append, List.length_cons]
    omega
theorem can_parts {l : List MEv} (h : canM l = true) : l.length ≤ 300 ∧ ∀ e ∈ l, evOk e = true := by
  unfold canM at h
  simp only [Bool.and_eq_true, decide_eq_true_eq, List.all_eq_true] at h
  exact h

/-- Values are ints. -/
def inI (n : Int) : Prop := -9223372036854775808 ≤ n ∧ n ≤ 9223372036854775807
def ValsFit (l : List MEv) : Prop := ∀ e ∈ l, ∀ o ∈ e.ops, inI o.value ∧ ∀ x ∈ o.list, inI x
/-- A token that is not long. -/
def Short (t : MTok) : Prop := (tx t).length ≤ 6 ∧ (t.1 = 2 → inI t.2.2.2)
theorem short_word {s : ByteArray} (h : s.size ≤ 6) : Short (wordT s) := ⟨by show s.data.toList.length ≤ 6; rw [Array.length_toList]; exact h, fun e => by cases e⟩
theorem short_mark (b : UInt8) : Short (markT b) := ⟨by show ([b] : List UInt8).length ≤ 6; simp, fun e => by cases e⟩
theorem short_num {n : Int} (h : inI n) : Short (numT n) := ⟨by show ([] : List UInt8).length ≤ 6; simp, fun _ => h⟩
theorem key_size {s : ByteArray} (h : keyOk s = true) : s.size ≤ 6 := by
  unfold keyOk at h
  simp only [Bool.and_eq_true, decide_eq_true_eq] at h
  exact h.2
theorem opWord_size (k : Int) : (opWord k).size ≤ 6 := by
  unfold opWord; split
  · decide
  · split
    · decide
    · split <;> decide
theorem evWord_size (k : Int) : (evWord k).size ≤ 6 := by
  unfold evWord; split
  · decide
  · split
    · decide
    · split <;> decide
theorem op_short {o : MOp} (h1 : keyOk o.key = true) (h2 : inI o.value) (h3 : ∀ x ∈ o.list, inI x) : ∀ t ∈ opT o, Short t := by
  intro t ht
  unfold opT at ht
  simp only [List.mem_append, List.mem_cons, List.not_mem_nil, or_false] at ht
  rcases ht with ((rfl | rfl | rfl) | hm) | rfl
  · exact short_mark _
  · exact short_word (opWord_size _)
  · exact short_word (key_size h1)
  · unfold midT at hm
    split at hm
    · rw [List.mem_singleton.1 hm]; exact short_num h2
    · split at hm
      · exact (List.not_mem_nil hm).elim
      · split at hm
        · simp only [List.mem_append, List.mem_singleton, List.mem_map] at hm
          rcases hm with (rfl | ⟨x, hx, rfl⟩) | rfl
          · exact short_mark _
          · exact short_num (h3 x hx)
          · exact short_mark _
        · split at hm
          · rw [List.mem_singleton.1 hm]; exact short_word (by decide)
          · rw [List.mem_singleton.1 hm]; exact short_num h2
  · exact short_mark _
theorem toks_short {l : List MEv} (hc : ∀ e ∈ l, evOk e = true) (hv : ValsFit l) : ∀ t ∈ toksOf l, Short t := by
  intro t ht
  unfold toksOf at ht
  obtain ⟨e, he, ht⟩ := List.mem_flatMap.1 ht
  obtain ⟨hh, ho⟩ := ev_parts (hc e he)
  unfold evT at ht
  simp only [List.mem_append, List.mem_cons, List.not_mem_nil, or_false, List.mem_flatMap] at ht
  rcases ht with ((rfl | rfl) | ⟨o, hm, ht⟩) | rfl
  · exact short_word (evWord_size _)
  · exact short_num ⟨by have := hh.2.2.1; omega, by have := hh.2.2.2.1; omega⟩
  · exact op_short (ho o hm).1 (hv e he o hm).1 (hv e he o hm).2 t ht
  · exact ⟨by show ([] : List UInt8).length ≤ 6; simp, fun e => by cases e⟩
theorem print_short : ∀ (l : List MTok) (il : Bool), (∀ t ∈ l, Short t) → (printL il l).length ≤ l.length * 30
  | [], _, _ => by simp [printL]
  | t :: l, il, h => by
    have hw := h t (by simp)
    have hl : ∀ x ∈ l, Short x := fun x hx => h x (by simp [hx])
    have i1 := print_short l true hl
    have i2 := print_short l false hl
    have i3 := print_short l il hl
    have hs : (sep il).length ≤ 1 := by cases il <;> decide
    have htx := hw.1
    rw [List.length_cons, printL]
    split
    · rw [List.length_append, List.length_append]; omega
    · split
      · rename_i e2
        have hr := hw.2 e2
        have hd : (decimal t.2.2.2).length ≤ 21 := by
          unfold inI at hr
          unfold decimal
          split
          · have := (dec_len (v := t.2.2.2.toNat) (by omega)).2; omega
          · have := (dec_len (v := (-t.2.2.2).toNat) (by omega)).2; simp; omega
        rw [List.length_append, List.length_append]; omega
      · split
        · rw [List.length_cons]; omega
        · omega

theorem flat_get (l : List MTok) (j i : Nat) (hj : j < l.length) (hi : i < 4) : (flat l)[j * 4 + i]? = (tcells (l.getD j default))[i]? := by
  unfold flat
  rw [flatten_get 4 _ j i (by intro r hr; obtain ⟨t, _, rfl⟩ := List.mem_map.1 hr; rfl) (by simpa using hj) hi]
  simp [List.getD, List.getElem?_eq_getElem hj]
/-- A row of one's own is a list in memory. -/
theorem own_toks {B : Nat} {w : World} {v : Value} {l : List MTok} (h : w.ownsRow B 51 4 v l.length (flat l)) (hb : l.length * 40 ≤ 140737488355328) : ToksIn (fun b => B ≤ b) w v l := by
  rcases h.2 with ⟨hv, hn⟩ | ⟨g, cap, cur, hv, hg, _⟩
  · exact ⟨none, 0, by rw [hv, hn], hb, fun h => by omega⟩
  · refine ⟨some ⟨g, 0, none⟩, cap, hv, hb, fun _ => ⟨g, 0, rfl, hg, fun j hj => ⟨tcells (l.getD j default), rfl, rfl, fun i u hi => ?_⟩⟩⟩
    have hil : i < 4 := (List.getElem?_eq_some_iff.1 hi).1
    have := h.cells (g := g) (by rw [hv]; rfl) (j * 4 + i) u (by rw [flat_get l j i hj hil]; exact hi)
    rw [Addr.add_lit] at this
    simpa [Nat.add_assoc] using this

theorem take_flat {α β : Type} [Inhabited α] (f : α → List β) {l : List α} {k : Nat} (h : k < l.length) : (l.take (k + 1)).flatMap f = (l.take k).flatMap f ++ f (l.getD k default) := by
  have e : l.getD k default = l[k] := by simp [List.getD, List.getElem?_eq_getElem h]
  rw [List.take_succ_eq_append_getElem h, e, List.flatMap_append]
  simp
theorem ix_ev {k : Int} (h : 1 ≤ k ∧ k ≤ 4) (w : World) : Sem.run Tryz.prog (Instr.index 65 (.agg #[.string ⟨#[]⟩, .string ⟨#[105, 110, 118, 111, 107, 101]⟩, .string ⟨#[111, 107]⟩, .string ⟨#[102, 97, 105, 108]⟩, .string ⟨#[105, 110, 102, 111]⟩]) (.int .i64 k)) w = .ok (.string (evWord k)) w := by
  have h4 : k = 1 ∨ k = 2 ∨ k = 3 ∨ k = 4 := by omega
  rcases h4 with rfl | rfl | rfl | rfl
  · exact ix1 w _ _ _ _ _
  · exact ix2 w _ _ _ _ _
  · exact ix3 w _ _ _ _ _
  · exact ix4 w _ _ _ _ _
theorem r2 {n N : Nat} (h : n ≤ N) (hN : N ≤ 200000) : n + 2 ≤ 1000000 := by omega
theorem r_line {n : Nat} (h : n ≤ 200000) : n + 1 ≤ 1000000 := by omega
theorem r_op {n m : Nat} (h : n ≤ 200000) (hm : m ≤ 40) : (n + m + 10) * 40 ≤ 140737488355328 := by omega
theorem mil : 1000000 * 40 ≤ 140737488355328 := by omega

end Go.Proofs.YtfgbjghfkdmcjaaGreatDoor
