/-
  report.Print, its parts: a number, a key in brackets, one of two words; a line written into a builder.
-/
import Derived.Test.YtkpomcimaofkkaaDoorV3
import Derived.Laws.IdiomStrings
import Derived.Laws.Concat
import Derived.Laws.OwnMore
import Derived.Lib.AppendIntMem
import Derived.Lib.OthersKept
import Derived.Lib.ItoaLen
namespace Go.Proofs.YtkpomcimaofkkaaDoor.Rp
set_option linter.unusedVariables false
set_option linter.unusedSimpArgs false
open Go.RowKit Go.Lib Go.Sort

abbrev Bs := List UInt8
/-- An int of 64 bits. -/
abbrev i64R (n : Int) : Prop := -9223372036854775808 ≤ n ∧ n ≤ 9223372036854775807
def decB (n : Int) : ByteArray := ⟨(decimal n).toArray⟩
def brB (k : ByteArray) : ByteArray := if k.toList = [] then ⟨#[40, 32, 41]⟩ else ⟨#[40, 32]⟩ ++ k ++ ⟨#[32, 41]⟩
def eiB (b : Bool) (y n : ByteArray) : ByteArray := if b then y else n
/-- What a dependency has on its line. -/
def wParts (x : MW) : List ByteArray := [mFrom, decB x.1, wordN labelWs x.2.2.1, decB x.2.1, brB x.2.2.2.1, decB x.2.2.2.2.1, decB x.2.2.2.2.2.1, eiB x.2.2.2.2.2.2.1 wNil wValue, eiB x.2.2.2.2.2.2.2 wCond wSure, mTo]
def aHead (a : MA) : List ByteArray := [wAnomaly, wordN kindWs a.1, decB a.2.1, decB a.2.2.1, decB a.2.2.2.1, brB a.2.2.2.2.1, decB a.2.2.2.2.2.1, eiB a.2.2.2.2.2.2.2.1 wReal wPlain, nameN a.2.2.2.2.2.2.2.2]
/-- What an anomaly has on its line. -/
def aParts (a : MA) : List ByteArray := aHead a ++ a.cyc.flatMap wParts
/-- What the answer has on its line. -/
def ansParts (x : Int) (os : List Int) : List ByteArray := [wAnswer, wordN answerWs x] ++ (if x = 1 then mOpen :: (os.map decB ++ [mClose]) else [])
/-- A line. -/
def lineB (ps : List ByteArray) : Bs := Lib.join (ps.map (·.data.toList)) [32] ++ [10]
/-- A report as a text. -/
def printB (r : MR) : Bs := lineB [wTxns, decB r.1] ++ (lineB [wUnique, eiB r.2.1 wYes wNo] ++ (r.2.2.1.flatMap (fun a => lineB (aParts a)) ++ (lineB [wLevel, nameN r.2.2.2.1] ++ lineB (ansParts r.2.2.2.2.1 r.2.2.2.2.2))))

theorem decAcc_digits_eq : ∀ (f u : Nat) (acc : List UInt8), u < 10 ^ f → (u = 0 → acc = [] ∧ 1 ≤ f) → decAcc f u acc = Lib.decDigits u ++ acc
  | 0, u, acc, h, h0 => by simp at h; have := h0 h; omega
  | f + 1, u, acc, h, h0 => by
    have hc : ¬ (u = 0 ∧ acc ≠ []) := fun ⟨a, b⟩ => b (h0 a).1
    unfold decAcc
    rw [if_neg hc]
    by_cases h10 : u < 10
    · rw [show u / 10 = 0 by omega, decAcc_end f (by simp), Lib.decDigits_one h10]
      have : dg u = UInt8.ofNat (48 + u) := by unfold dg; rw [show u % 10 = u by omega]
      rw [this]; rfl
    · rw [decAcc_digits_eq f (u / 10) _ (by rw [Nat.pow_succ] at h; omega) (fun e => by omega)]
      conv => rhs; rw [Lib.decDigits, dif_neg h10]
      simp [dg]
theorem dec_digits_eq {u : Nat} (h : u < 10 ^ 20) : Lib.decDigits u = dec u := by
  unfold dec
  rw [decAcc_digits_eq 20 u [] h (fun _ => ⟨rfl, by omega⟩)]
  simp
theorem itoa_decimal {n : Int} (h : i64R n) : Lib.itoa n = decimal n := by
  unfold Lib.itoa decimal
  by_cases hn : 0 ≤ n
  · rw [if_neg (by omega), if_pos hn, dec_digits_eq (by omega)]
  · rw [if_pos (by omega), if_neg hn, dec_digits_eq (by omega), show n.natAbs = (-n).toNat by omega]
theorem decB_size {n : Int} (h : i64R n) : (decB n).size ≤ 21 := by
  show (decimal n).toArray.size ≤ 21
  rw [← itoa_decimal h]
  simpa using itoa_length_le n h.1 h.2
/-- The table of strconv stands in all worlds in which nothing below B has changed. -/
abbrev Pow (B : Nat) (w : World) : Prop := Lib.TabBelow Tryd.prog B w "internal/strconv.uint64pow10" .u64 Lib.pow10Tab
theorem Pow.later {B : Nat} {w w' : World} (h : Pow B w) (hb : Below B w w') (hs : B ≤ w'.heap.size) : Pow w'.heap.size w' := fun V hV => h V (hb.trans (hV.mono hs))
theorem itoa_is (n : Int) (hn : i64R n) (w : World) (h : Pow w.heap.size w) : Calls Tryd.prog 12 #[.int .i64 n] w fun e w' => e = .returned (.string (decB n)) ∧ Below w.heap.size w w' :=
  (Tryd.strconv_Itoa n hn.1 hn.2 w h.here).mono fun e W ⟨h2, k, os, h3⟩ => ⟨by rw [h2, itoa_decimal hn]; rfl, by rw [h3]; exact Lib.below_grow _ _ (Nat.le_refl _) _ _⟩
set_option maxHeartbeats 1000000 in
theorem brk_is (k : ByteArray) (hk : k.size ≤ 1000) (w : World) : Calls Tryd.prog 32 #[.string k] w fun e w' => e = .returned (.string (brB k)) ∧ Below w.heap.size w w' := by
  by_cases h : k.toList = []
  · have h2 : k.toList.isEmpty = true := by rw [h]; rfl
    have h3 : k = ⟨#[]⟩ := by
      apply ByteArray.ext
      rw [ByteArray.toList_eq] at h
      exact Array.toList_eq_nil_iff.1 h
    have HE : Hid (brB k = ⟨#[40, 32, 41]⟩) := by show _ = _; unfold brB; rw [if_pos h]
    clear h
    go_enter Tryd.func32, Tryd.ntmps32
    go_wp2_with fail
    go_ret
    exact ⟨by rw [HE.out]; rfl, Below.refl _ _⟩
  · have h2 : k.toList.isEmpty = false := by simpa using h
    have HE : Hid (brB k = ⟨#[40, 32]⟩ ++ k ++ ⟨#[32, 41]⟩) := by show _ = _; unfold brB; rw [if_neg h]
    clear h
    go_enter Tryd.func32, Tryd.ntmps32
    go_wp2_with fail
    go_ret
    exact ⟨by rw [HE.out]; rfl, Below.refl _ _⟩
theorem pqei_is (b : Bool) (y n : ByteArray) (w : World) : Calls Tryd.prog 13 #[.bool b, .string y, .string n] w fun e w' => e = .returned (.string (eiB b y n)) ∧ Below w.heap.size w w' := by
  cases b
  · go_enter Tryd.func13, Tryd.ntmps13
    go_wp2_with fail
    go_ret
    exact ⟨rfl, Below.refl _ _⟩
  · go_enter Tryd.func13, Tryd.ntmps13
    go_wp2_with fail
    go_ret
    exact ⟨rfl, Below.refl _ _⟩
/-! A builder, and what stays beside it. -/
structure Wr (B b : Nat) (w wr : World) (bs : Bs) : Prop where
  bu : Lib.IsBuilderF 33 5 B b (Lib.byteCells bs) wr
  be : Below B w wr
  ok : Lib.OthersKept 5 (some b) w wr
theorem cells_more (bs : Bs) (x : ByteArray) : Lib.byteCells bs ++ Lib.strCells x = Lib.byteCells (bs ++ x.data.toList) := by
  simp [Lib.byteCells, Lib.strCells]
theorem cells_byte (bs : Bs) (c : UInt8) : Lib.byteCells bs ++ [.int .u8 (c.toNat : Int)] = Lib.byteCells (bs ++ [c]) := by
  simp [Lib.byteCells]
theorem blt {w : World} {b : Nat} {o : Obj} (h : w.heap[b]? = some o) : b < w.heap.size := (Array.getElem?_eq_some_iff.1 h).1
theorem Wr.later {B b : Nat} {w wr W : World} {bs : Bs} (h : Wr B b w wr bs) (hb : Below wr.heap.size wr W) : Wr B b w W bs := by
  have step : ∀ p, Lib.BuilderAtF 33 5 B b p (Lib.byteCells bs) wr → Lib.BuilderAtF 33 5 B b p (Lib.byteCells bs) W := fun p hp => by
    obtain ⟨hB, v, hbk, hown, hne⟩ := hp
    refine ⟨hB, v, (hb.block b (blt hbk)).trans hbk, ⟨hown.1, ?_⟩, hne⟩
    rcases hown.2 with h1 | ⟨g, cap, cur, fz, hv, hg, hh, hr⟩
    · exact .inl h1
    · exact .inr ⟨g, cap, cur, fz, hv, hg, (hb.block g (blt hh)).trans hh, hr⟩
  refine ⟨?_, h.be.trans (hb.mono ?_), h.ok.trans (fun k o hk _ _ => (hb.block k (blt hk)).trans hk)⟩
  · rcases h.bu with q | q
    · exact .inl (step _ q)
    · exact .inr (step _ q)
  · rcases h.bu with q | q
    · exact Nat.le_of_lt (Nat.lt_of_le_of_lt q.1 (by obtain ⟨_, v, hbk, _⟩ := q; exact blt hbk))
    · exact Nat.le_of_lt (Nat.lt_of_le_of_lt q.1 (by obtain ⟨_, v, hbk, _⟩ := q; exact blt hbk))
theorem Wr.low {B b : Nat} {w wr : World} {bs : Bs} (h : Wr B b w wr bs) : B ≤ wr.heap.size := by
  rcases h.bu with q | q
  · exact Nat.le_of_lt (Nat.lt_of_le_of_lt q.1 (by obtain ⟨_, v, hbk, _⟩ := q; exact blt hbk))
  · exact Nat.le_of_lt (Nat.lt_of_le_of_lt q.1 (by obtain ⟨_, v, hbk, _⟩ := q; exact blt hbk))
theorem bwrite_is {B b : Nat} {w wr : World} {bs : Bs} (s : ByteArray) (h : Wr B b w wr bs) (hl : bs.length + s.size ≤ 140737488355328) : Calls Tryd.prog 9 #[.pointer (some ⟨b, 0, none⟩), .string s] wr fun e W => e = .returned (.tuple #[.int .i64 s.size, .nilIface]) ∧ Wr B b w W (bs ++ s.data.toList) :=
  (Tryd.Builder_WriteString_k B b (Lib.byteCells bs) s wr h.bu (by rw [Lib.byteCells_length]; exact hl) h.low).mono fun e W ⟨h1, h2, h3, h4⟩ => ⟨h1, by rw [cells_more] at h2; exact ⟨.inr h2, h.be.trans h3, h.ok.trans h4⟩⟩
theorem bbyte_is {B b : Nat} {w wr : World} {bs : Bs} (c : UInt8) (h : Wr B b w wr bs) (hl : bs.length + 1 ≤ 140737488355328) : Calls Tryd.prog 11 #[.pointer (some ⟨b, 0, none⟩), .int .u8 (c.toNat : Int)] wr fun e W => e = .returned .nilIface ∧ Wr B b w W (bs ++ [c]) :=
  (Tryd.Builder_WriteByte_k B b (Lib.byteCells bs) (c.toNat : Int) wr h.bu (by rw [Lib.byteCells_length]; exact hl) h.low).mono fun e W ⟨h1, h2, h3, h4⟩ => ⟨h1, by rw [cells_byte] at h2; exact ⟨.inr h2, h.be.trans h3, h.ok.trans h4⟩⟩
/-- A line is written. -/
theorem pqline_is {B b : Nat} {w wr : World} {bs : Bs} (g c : Nat) (ps : List ByteArray) (h : Wr B b w wr bs) (hc : ∀ (j : Nat) x, ps[j]? = some x → wr.cell? ⟨g, j, none⟩ = some (.string x)) (hg : g < wr.heap.size) (hcap : ps.length ≤ c) (hn : ps.length ≤ 140737488355328) (hl : bs.length + (lineB ps).length ≤ 140737488355328) :
    Calls Tryd.prog 8 #[.slice (some ⟨g, 0, none⟩) ps.length c, .pointer (some ⟨b, 0, none⟩)] wr fun e W => e = .returned (.tuple #[]) ∧ Wr B b w W (bs ++ lineB ps) := by
  have hl2 : (Lib.join (ps.map (·.data.toList)) [32]).length + 1 = (lineB ps).length := by simp [lineB]
  have J := hid (Tryd.strings_Join g 0 c ps ⟨#[32]⟩ wr (fun j x hj => by rw [Nat.zero_add]; exact hc j x hj) hg hn hcap (by show (Lib.join (ps.map (·.data.toList)) [32]).length ≤ _; omega))
  obtain ⟨J1, hJ1⟩ : ∃ J1, (⟨(Lib.join (ps.map (·.data.toList)) [32]).toArray⟩ : ByteArray) = J1 := ⟨_, rfl⟩
  have HJ : Hid (J1.data.toList = Lib.join (ps.map (·.data.toList)) [32]) := by show _ = _; rw [← hJ1]
  have hs : J1.size + 1 = (lineB ps).length := by rw [← hl2, ← HJ.out]; rfl
  change Hid (Calls _ _ _ _ fun e w' => e = .returned (.string ⟨(Lib.join (ps.map (·.data.toList)) [32]).toArray⟩) ∧ _) at J
  rw [hJ1] at J
  have H := hid h
  have HL := hid hl
  have HS := hid hs
  clear h hc hJ1 hl2 hl hs
  go_enter Tryd.func8, Tryd.ntmps8
  go_wp2_with fail
  go_at_call 10
  refine J.out.mono ?_
  rintro e w1 ⟨rfl, b1⟩
  have H1 := hid (H.out.later b1)
  clear b1
  go_wp2_with fail
  go_at_call 9
  refine (bwrite_is J1 H1.out (by have := HL.out; have := HS.out; omega)).mono ?_
  rintro e w2 ⟨rfl, h2⟩
  have H2 := hid h2
  clear h2
  go_wp2_with fail
  go_at_call 11
  refine (bbyte_is 10 H2.out (by have := HL.out; have := HS.out; rw [List.length_append]; have e : J1.data.toList.length = J1.size := Array.length_toList; omega)).mono ?_
  rintro e w3 ⟨rfl, h3⟩
  have H3 := hid h3
  clear h3
  go_wp2_with fail
  refine bodyPost_end (results_none rfl _ _ _) rfl ⟨rfl, ?_⟩
  have h := H3.out
  rw [HJ.out, List.append_assoc] at h
  exact h
end Go.Proofs.YtkpomcimaofkkaaDoor.Rp
