/-
  Walks of the code's Print and of the reference's: any tokens as a text.
-/
import Derived.Test.YtlkmciegpmpbbaaDoorBack
import Derived.Test.YtlkmciegpmpbbaaDoorD1
import Derived.Test.YtlkmciegpmpbbaaDoorHRefCan
import Derived.Laws.OwnMore
import Derived.Lib.SliceRun
import Derived.Lib.Walk
import Derived.Test.YtlkmciegpmpbbaaDoorShelfB
import Derived.Lib.AppendIntMem
namespace Go.Proofs.YtlkmciegpmpbbaaDoor
set_option linter.unusedVariables false
set_option linter.unusedSimpArgs false
open Go.RowKit Go.Lib

theorem decAcc_digits_eq : ∀ (f u : Nat) (acc : List UInt8), u < 10 ^ f → (u = 0 → acc = [] ∧ 1 ≤ f) → decAcc f u acc = Lib.decDigits u ++ acc
  | 0, u, acc, h, h0 => by simp at h; have := h0 h; omega
  | f + 1, u, acc, h, h0 => by
    have hc : ¬ (u = 0 ∧ acc ≠ []) := fun ⟨a, b⟩ => b (h0 a).1
    unfold decAcc
    rw [if_neg hc]
    by_cases h10 : u < 10
    · rw [show u / 10 = 0 by omega, decAcc_end f (by simp), Lib.decDigits_one h10]
      have : dg u = UInt8.ofNat (48 + u) := by unfold dg; rw [show u % 10 = u by omega]
      rw [this]; rfl
    · rw [decAcc_digits_eq f (u / 10) _ (by rw [Nat.pow_succ] at h; omega) (fun e => by omega)]
      conv => rhs; rw [Lib.decDigits, dif_neg h10]
      simp [dg]

theorem dec_digits_eq {u : Nat} (h : u < 10 ^ 20) : Lib.decDigits u = dec u := by
  unfold dec
  rw [decAcc_digits_eq 20 u [] h (fun _ => ⟨rfl, by omega⟩)]
  simp

theorem itoa_decimal {n : Int} (h0 : -9223372036854775808 ≤ n) (h1 : n ≤ 9223372036854775807) : Lib.itoa n = decimal n := by
  unfold Lib.itoa decimal
  by_cases hn : 0 ≤ n
  · rw [if_neg (by omega), if_pos hn, dec_digits_eq (by omega)]
  · rw [if_pos (by omega), if_neg hn, dec_digits_eq (by omega), show n.natAbs = (-n).toNat by omega]

theorem later_builder {B b : Nat} {bs : List Value} {w w' : World} (h : Lib.IsBuilder 57 5 B b bs w) (hb : Below w.heap.size w w') : Lib.IsBuilder 57 5 B b bs w' := by
  have step : ∀ p, Lib.BuilderAt 57 5 B b p bs w → Lib.BuilderAt 57 5 B b p bs w' := fun p hp => by
    have hlt := hp.lt
    obtain ⟨hB, v, hbk, hown, hne⟩ := hp
    exact ⟨hB, v, (hb.block b hlt).trans hbk, owns_keep hown (fun g hg => hb.block g (hown.lt g hg).2), hne⟩
  rcases h with h | h
  · exact .inl (step _ h)
  · exact .inr (step _ h)

theorem drop_at {l : List MTok} {k : Nat} (h : k < l.length) : l.drop k = l.getD k default :: l.drop (k + 1) := by
  rw [List.drop_eq_getElem_cons h]
  simp [List.getD, List.getElem?_eq_getElem h]

/-- One token more: its text, or its number's. -/
theorem print_word {il : Bool} {bs : List UInt8} {t : MTok} {r : List MTok} {l : List UInt8} (h : bs ++ printL il (t :: r) = l) (hk : t.1 = 1 ∨ t.1 = 3) : (bs ++ (sep il ++ tx t)) ++ printL true r = l := by
  rw [← h]
  conv => rhs; rw [printL, if_pos hk]
  simp
theorem print_num {il : Bool} {bs : List UInt8} {t : MTok} {r : List MTok} {l : List UInt8} (h : bs ++ printL il (t :: r) = l) (hk : t.1 = 2) : (bs ++ (sep il ++ decimal t.2.2.2)) ++ printL true r = l := by
  rw [← h]
  conv => rhs; rw [printL, if_neg (by omega), if_pos hk]
  simp
theorem print_line {il : Bool} {bs : List UInt8} {t : MTok} {r : List MTok} {l : List UInt8} (h : bs ++ printL il (t :: r) = l) (hk : t.1 = 4) : (bs ++ [10]) ++ printL false r = l := by
  rw [← h]
  conv => rhs; rw [printL, if_neg (by omega), if_neg (by omega), if_pos hk]
  simp
theorem print_none {il : Bool} {bs : List UInt8} {t : MTok} {r : List MTok} {l : List UInt8} (h : bs ++ printL il (t :: r) = l) (h1 : ¬ t.1 = 1) (h2 : ¬ t.1 = 2) (h3 : ¬ t.1 = 3) (h4 : ¬ t.1 = 4) : bs ++ printL il r = l := by
  rw [← h]
  conv => rhs; rw [printL, if_neg (by omega), if_neg h2, if_neg h4]

theorem len_of {a b c : List UInt8} {N : Nat} (h : a ++ b = c) (hc : c.length ≤ N) : a.length ≤ N := by
  rw [← h, List.length_append] at hc; omega

theorem word_len {bs : List UInt8} {il : Bool} {X : ByteArray} {r c : List UInt8} {N : Nat} (h : (bs ++ (sep il ++ X.data.toList)) ++ r = c) (hc : c.length ≤ N) : bs.length + (sep il).length + X.size ≤ N := by
  have h1 := len_of h hc
  simp only [List.length_append] at h1
  have e : X.data.toList.length = X.size := Array.length_toList
  omega

/-- The cells of a blank and of a text behind those that there are. -/
theorem cells_word (bs : List UInt8) (x : ByteArray) : (Lib.byteCells bs ++ [.int .u8 32]) ++ Lib.strCells x = Lib.byteCells (bs ++ (sep true ++ x.data.toList)) := by
  simp [Lib.byteCells, Lib.strCells, sep]
theorem cells_first (bs : List UInt8) (x : ByteArray) : Lib.byteCells bs ++ Lib.strCells x = Lib.byteCells (bs ++ (sep false ++ x.data.toList)) := by
  simp [Lib.byteCells, Lib.strCells, sep]
theorem cells_line (bs : List UInt8) : Lib.byteCells bs ++ [.int .u8 10] = Lib.byteCells (bs ++ [10]) := by
  simp [Lib.byteCells]

abbrev Pow10 (w : World) : Prop := Lib.TabIs Tryd.prog w "internal/strconv.uint64pow10" .u64 Lib.pow10Tab

/-- The numbers of number tokens are ints. -/
def NumsOk (l : List MTok) : Prop := ∀ t ∈ l, t.1 = 2 → -9223372036854775808 ≤ t.2.2.2 ∧ t.2.2.2 ≤ 9223372036854775807

set_option maxHeartbeats 4000000 in
set_option maxRecDepth 100000 in
/-- The code's Print. -/
theorem print_any {S : Nat → Prop} (v : Value) (l : List MTok) (w : World) (h : ToksIn S w v l) (htab : Pow10 w) (hN : NumsOk l) (hP : (printL false l).length ≤ 140737488355328) :
    Calls Tryd.prog 17 #[v] w fun e w' => e = .returned (.string ⟨(printL false l).toArray⟩) ∧ Below w.heap.size w w' := by
  have H := hid h
  have HT : Hid (Lib.TabBelow Tryd.prog w.heap.size w "internal/strconv.uint64pow10" .u64 Lib.pow10Tab) := Lib.tabBelow_of_tabIs htab
  have HN := hid hN
  have HL := hid hP
  have hbig : l.length * 40 ≤ 140737488355328 := by obtain ⟨_, _, _, hl, _⟩ := h; exact hl
  obtain ⟨va, vc, rfl, -⟩ := id h
  clear h htab hN hP
  go_enter Tryd.func17, Tryd.ntmps17
  go_wp2_with fail
  go_loopg [4, 10] l.length (fun g fl i wr => ∃ (k : Nat) (il : Bool) (bs : List UInt8), k ≤ l.length ∧ l.length - k ≤ g ∧ i = .int .i64 k ∧ fl = .bool il ∧ Aside (bs ++ printL il (l.drop k) = printL false l) ∧ Aside (Lib.IsBuilder 57 5 w.heap.size w.heap.size (Lib.byteCells bs) wr) ∧ Aside (Below w.heap.size w wr))
  case atStart => exact ⟨0, false, [], Nat.zero_le _, by omega, rfl, rfl, rfl, Lib.fresh_isBuilder 57 5 w, below_box _ _⟩
  case round =>
    obtain ⟨k, il, bs, hk, hg, rfl, rfl, P, BI, B⟩ := hrel
    by_cases hlt : k < l.length
    · have hlti : (k : Int) < (l.length : Int) := by omega
      have t4 := H.out.later (T := Any) B.out (fun _ _ _ => trivial)
      obtain ⟨ao, c, hsl, _, hc⟩ := RowsIn.cells t4 (by omega)
      cases hsl
      obtain ⟨bb, oo, cs, rfl, hbb, _, e1, k1⟩ := hc k hlt
      clear hc t4
      unfold TokRow at e1
      subst e1
      have p0 := P.out
      rw [drop_at hlt] at p0
      have n0 := HN.out _ (mem_at hlt)
      have d0 : wr.cell? ⟨bb, oo + k * 4, none⟩ = _ := k1 0 _ rfl
      have d1 := k1 1 _ rfl
      have d2 := k1 2 _ rfl
      have d3 := k1 3 _ rfl
      clear k1 P
      generalize l.getD k default = t at *
      obtain ⟨x0, x1, x2, x3⟩ := t
      have hBs : w.heap.size ≤ wr.heap.size := B.out.size
      have hBox : ∀ o, Below w.heap.size w (wr.alloc o) := fun o => B.out.trans ((below_box wr o).mono hBs)
      have HBox := hid hBox
      have HBI : Hid (∀ o, Lib.IsBuilder 57 5 w.heap.size w.heap.size (Lib.byteCells bs) (wr.alloc o)) := fun o => later_builder BI.out (below_box wr o)
      clear hBox BI
      by_cases c1 : x0 = 1
      · subst c1
        have PT := hid (print_word (t := (1, x1, x2, x3)) p0 (by simp))
        clear p0 n0
        cases il with
        | false =>
          go_wp2_with fail
          have hl0 : bs.length + (sep false).length + x2.size ≤ 140737488355328 := word_len PT.out HL.out
          refine (Tryd.Builder_WriteString w.heap.size w.heap.size (Lib.byteCells bs) x2 _ (HBI.out _) (by rw [Lib.byteCells_length]; omega) (HBox.out _).size).mono ?_
          rintro e w6 ⟨rfl, A6, b6⟩
          have HB6 : Hid (Below w.heap.size w w6) := (HBox.out _).trans b6
          rw [cells_first] at A6
          have HA6 := hid A6
          clear A6 b6
          go_wp2_with fail
          go_roundg (l.length - (k + 1))
          case measure => omega
          case rel => exact ⟨k + 1, true, _, by omega, by omega, by go_num, rfl, PT.out, .inr HA6.out, HB6.out⟩
        | true =>
          go_wp2_with fail
          have hl0 : bs.length + (sep true).length + x2.size ≤ 140737488355328 := word_len PT.out HL.out
          refine (Tryd.Builder_WriteByte w.heap.size w.heap.size (Lib.byteCells bs) 32 _ (HBI.out _) (by rw [Lib.byteCells_length]; have : (sep true).length = 1 := rfl; omega) (HBox.out _).size).mono ?_
          rintro e w5 ⟨rfl, A5, b5⟩
          have HA5 := hid A5
          have HB5 : Hid (Below w.heap.size w w5) := (HBox.out _).trans b5
          clear A5 b5
          go_wp2_with fail
          refine (Tryd.Builder_WriteString w.heap.size w.heap.size (Lib.byteCells bs ++ [.int .u8 32]) x2 _ (.inr HA5.out) (by rw [List.length_append, Lib.byteCells_length]; have : (sep true).length = 1 := rfl; show bs.length + 1 + _ ≤ _; omega) HB5.out.size).mono ?_
          rintro e w6 ⟨rfl, A6, b6⟩
          have HB6 : Hid (Below w.heap.size w w6) := HB5.out.trans b6
          rw [cells_word] at A6
          have HA6 := hid A6
          clear A6 b6
          go_wp2_with fail
          go_roundg (l.length - (k + 1))
          case measure => omega
          case rel => exact ⟨k + 1, true, _, by omega, by omega, by go_num, rfl, PT.out, .inr HA6.out, HB6.out⟩
      by_cases c3 : x0 = 3
      · subst c3
        have PT := hid (print_word (t := (3, x1, x2, x3)) p0 (by simp))
        clear p0 n0
        cases il with
        | false =>
          go_wp2_with fail
          have hl0 : bs.length + (sep false).length + x2.size ≤ 140737488355328 := word_len PT.out HL.out
          refine (Tryd.Builder_WriteString w.heap.size w.heap.size (Lib.byteCells bs) x2 _ (HBI.out _) (by rw [Lib.byteCells_length]; omega) (HBox.out _).size).mono ?_
          rintro e w6 ⟨rfl, A6, b6⟩
          have HB6 : Hid (Below w.heap.size w w6) := (HBox.out _).trans b6
          rw [cells_first] at A6
          have HA6 := hid A6
          clear A6 b6
          go_wp2_with fail
          go_roundg (l.length - (k + 1))
          case measure => omega
          case rel => exact ⟨k + 1, true, _, by omega, by omega, by go_num, rfl, PT.out, .inr HA6.out, HB6.out⟩
        | true =>
          go_wp2_with fail
          have hl0 : bs.length + (sep true).length + x2.size ≤ 140737488355328 := word_len PT.out HL.out
          refine (Tryd.Builder_WriteByte w.heap.size w.heap.size (Lib.byteCells bs) 32 _ (HBI.out _) (by rw [Lib.byteCells_length]; have : (sep true).length = 1 := rfl; omega) (HBox.out _).size).mono ?_
          rintro e w5 ⟨rfl, A5, b5⟩
          have HA5 := hid A5
          have HB5 : Hid (Below w.heap.size w w5) := (HBox.out _).trans b5
          clear A5 b5
          go_wp2_with fail
          refine (Tryd.Builder_WriteString w.heap.size w.heap.size (Lib.byteCells bs ++ [.int .u8 32]) x2 _ (.inr HA5.out) (by rw [List.length_append, Lib.byteCells_length]; have : (sep true).length = 1 := rfl; show bs.length + 1 + _ ≤ _; omega) HB5.out.size).mono ?_
          rintro e w6 ⟨rfl, A6, b6⟩
          have HB6 : Hid (Below w.heap.size w w6) := HB5.out.trans b6
          rw [cells_word] at A6
          have HA6 := hid A6
          clear A6 b6
          go_wp2_with fail
          go_roundg (l.length - (k + 1))
          case measure => omega
          case rel => exact ⟨k + 1, true, _, by omega, by omega, by go_num, rfl, PT.out, .inr HA6.out, HB6.out⟩
      by_cases c2 : x0 = 2
      · subst c2
        obtain ⟨n1, n2⟩ := n0 rfl
        have hIt := itoa_decimal n1 n2
        simp only at n1 n2 hIt
        have p1 := print_num (t := (2, x1, x2, x3)) p0 rfl
        simp only at p1
        rw [← hIt] at p1
        have PT := hid p1
        clear p0 n0 p1 hIt
        have n3 : ((2 : Int) == 1) = false := rfl
        have HI := fun W hW => Tryd.strconv_Itoa x3 n1 n2 W hW
        clear n1 n2
        go_wp2_with fail
        refine (HI _ (HT.out _ (HBox.out _))).mono ?_
        rintro e w4 ⟨rfl, q4, os4, rfl⟩
        generalize hX : (⟨(Lib.itoa x3).toArray⟩ : ByteArray) = X
        have hXl : X.data.toList = Lib.itoa x3 := by rw [← hX]
        rw [← hXl] at PT
        clear hX hXl HI
        cases il with
        | false =>
          go_wp2_with fail
          have hl0 : bs.length + (sep false).length + X.size ≤ 140737488355328 := word_len PT.out HL.out
          refine (Tryd.Builder_WriteString w.heap.size w.heap.size (Lib.byteCells bs) X _ (later_builder (HBI.out _) (Lib.below_grow _ _ (Nat.le_refl _) _ _)) (by rw [Lib.byteCells_length]; omega) ((HBox.out _).trans (Lib.below_grow _ _ (HBox.out _).size _ _)).size).mono ?_
          rintro e w6 ⟨rfl, A6, b6⟩
          have HB6 : Hid (Below w.heap.size w w6) := ((HBox.out _).trans (Lib.below_grow _ _ (HBox.out _).size _ _)).trans b6
          rw [cells_first] at A6
          have HA6 := hid A6
          clear A6 b6
          go_wp2_with fail
          go_roundg (l.length - (k + 1))
          case measure => omega
          case rel => exact ⟨k + 1, true, _, by omega, by omega, by go_num, rfl, PT.out, .inr HA6.out, HB6.out⟩
        | true =>
          go_wp2_with fail
          have hl0 : bs.length + (sep true).length + X.size ≤ 140737488355328 := word_len PT.out HL.out
          refine (Tryd.Builder_WriteByte w.heap.size w.heap.size (Lib.byteCells bs) 32 _ (later_builder (HBI.out _) (Lib.below_grow _ _ (Nat.le_refl _) _ _)) (by rw [Lib.byteCells_length]; have : (sep true).length = 1 := rfl; omega) ((HBox.out _).trans (Lib.below_grow _ _ (HBox.out _).size _ _)).size).mono ?_
          rintro e w5 ⟨rfl, A5, b5⟩
          have HA5 := hid A5
          have HB5 : Hid (Below w.heap.size w w5) := ((HBox.out _).trans (Lib.below_grow _ _ (HBox.out _).size _ _)).trans b5
          clear A5 b5
          go_wp2_with fail
          refine (Tryd.Builder_WriteString w.heap.size w.heap.size (Lib.byteCells bs ++ [.int .u8 32]) X _ (.inr HA5.out) (by rw [List.length_append, Lib.byteCells_length]; have : (sep true).length = 1 := rfl; show bs.length + 1 + _ ≤ _; omega) HB5.out.size).mono ?_
          rintro e w6 ⟨rfl, A6, b6⟩
          have HB6 : Hid (Below w.heap.size w w6) := HB5.out.trans b6
          rw [cells_word] at A6
          have HA6 := hid A6
          clear A6 b6
          go_wp2_with fail
          go_roundg (l.length - (k + 1))
          case measure => omega
          case rel => exact ⟨k + 1, true, _, by omega, by omega, by go_num, rfl, PT.out, .inr HA6.out, HB6.out⟩
      by_cases c4 : x0 = 4
      · subst c4
        have PT := hid (print_line (t := (4, x1, x2, x3)) p0 rfl)
        clear p0 n0
        go_wp2_with fail
        have hl0 : bs.length + 1 ≤ 140737488355328 := by have := len_of PT.out HL.out; rw [List.length_append] at this; exact this
        refine (Tryd.Builder_WriteByte w.heap.size w.heap.size (Lib.byteCells bs) 10 _ (HBI.out _) (by rw [Lib.byteCells_length]; exact hl0) (HBox.out _).size).mono ?_
        rintro e w5 ⟨rfl, A5, b5⟩
        rw [cells_line] at A5
        have HA5 := hid A5
        have HB5 : Hid (Below w.heap.size w w5) := (HBox.out _).trans b5
        clear A5 b5
        go_wp2_with fail
        go_roundg (l.length - (k + 1))
        case measure => omega
        case rel => exact ⟨k + 1, false, _, by omega, by omega, by go_num, rfl, PT.out, .inr HA5.out, HB5.out⟩
      have PT := hid (print_none (t := (x0, x1, x2, x3)) p0 c1 c2 c3 c4)
      clear p0 n0
      have e1 : (x0 == 1) = false := by simpa using c1
      have e2 : (x0 == 2) = false := by simpa using c2
      have e3 : (x0 == 3) = false := by simpa using c3
      have e4 : (x0 == 4) = false := by simpa using c4
      go_wp2_with fail
      go_roundg (l.length - (k + 1))
      case measure => omega
      case rel => exact ⟨k + 1, il, bs, by omega, by omega, by go_num, rfl, PT.out, HBI.out _, HBox.out _⟩
    · have hk' : k = l.length := by omega
      subst hk'
      have hbs : bs = printL false l := by have := P.out; rw [List.drop_length] at this; simpa [printL] using this
      subst hbs
      clear P
      have HBs : w.heap.size ≤ wr.heap.size := B.out.size
      go_wp2_with fail
      refine (Tryd.Builder_String_any w.heap.size w.heap.size (printL false l) _ BI.out HBs).mono ?_
      rintro e w7 ⟨rfl, b7⟩
      go_wp2_with fail
      go_ret
      exact ⟨rfl, B.out.trans b7⟩
end Go.Proofs.YtlkmciegpmpbbaaDoor
