/-
  Walk of the reference's Scan.
  Walks of what holds errors and lists of tokens against one another.
  report.Parse: how much a report that is read can hold; the panic that is caught.
-/
import Derived.Test.YtkpomcimaofkkaaGreatDoorU21
import Derived.Laws.StructEq
import Derived.Test.YtkpomcimaofkkaaGreatDoorU20
import Derived.Recover
import Derived.WalkKit
namespace Go.Proofs.YtkpomcimaofkkaaGreatDoor
set_option linter.unusedVariables false
set_option linter.unusedSimpArgs false
open Go.RowKit

/-- What the reference's Scan answers. -/
def RefPost (w : World) (r : Except (Nat × Nat) (List MTok)) (e : Ending) (w' : World) : Prop :=
  match r with
  | .ok l => ∃ v, e = .returned (.tuple #[v, .int .i64 0, .int .i64 0]) ∧ ToksIn (fun b => w.heap.size ≤ b) w' v l ∧ Roomy v
  | .error (a, y) => e = .returned (.tuple #[.slice none 0 0, .int .i64 a, .int .i64 y])

theorem tokM_err {s : ByteArray} {i a y : Nat} (h : tokM s i = .error (a, y)) : ((y : Int) != 0) = true := by
  unfold tokM at h
  split at h
  · cases h
  · split at h
    · split at h
      · rename_i e he
        cases h
        exact numM_err he
      · cases h
    · split at h
      · cases h
      · split at h
        · cases h
        · cases h; rfl

set_option maxRecDepth 100000 in
set_option maxHeartbeats 4000000 in
theorem refScan_walk (s : ByteArray) (w : World) (hs : s.size ≤ 20000) :
    Calls Tryz.prog 21 #[.string s] w fun e w' => RefPost w (left s 0 []) e w' ∧ Below w.heap.size w w' := by
  obtain ⟨i0, hi0, hz0, hz1, hz2⟩ := info_parts Tryz.infoTok
  have hsd : decide ((20000 : Int) < (s.size : Int)) = false := by simp; omega
  go_enter Tryz.func21, Tryz.ntmps21
  go_wp2
  go_loopg [5, 6, 7, 8, 9, 10] s.size (fun g v at_ _ _ _ _ wr => ∃ (i : Nat) (rows : List (List Value)) (acc : List MTok), i ≤ s.size ∧ s.size - i ≤ g ∧ at_ = .int .i64 i ∧ acc.length ≤ i ∧ Aside (Below w.heap.size w wr) ∧ Aside (OutInv 61 4 TokRow w.heap.size wr v acc.length rows acc) ∧ Aside (left s 0 [] = left s i acc))
  case atStart => exact ⟨0, [], [], Nat.zero_le _, by omega, rfl, Nat.le_refl _, Below.refl _ _, OutInv.nil _ _ _ _ _, rfl⟩
  case round =>
    obtain ⟨i, rows, acc, hi, hg, rfl, hacc, BW, I, HL⟩ := hrel
    have hsz := BW.out.size
    by_cases hlt : i < s.size
    · have hlti : (i : Int) < (s.size : Int) := by omega
      by_cases hnb : bt s i = 32
      · have HT : Hid (left s 0 [] = left s (i + 1) acc) := HL.out.trans (left_blank acc hlt hnb)
        have q32 : ((((s[i]'hlt).toNat : Nat) : Int) == 32) = true := by rw [bt_get hlt, hnb]; rfl
        clear hnb
        go_wp2_with fail
        go_roundg (s.size - (i + 1))
        case measure => omega
        case rel => exact ⟨i + 1, rows, acc, by omega, by omega, by go_num, by omega, BW.out, I.out, HT.out⟩
      have q32 : ((((s[i]'hlt).toNat : Nat) : Int) == 32) = false := beq_eq_false_iff_ne.2 (by rw [bt_get hlt]; omega)
      have hc := refToken_any s i wr hs hlt
      cases hT : tokM s i with
      | error q =>
        obtain ⟨a, y⟩ := q
        have HEND : Hid (left s 0 [] = .error (a, y)) := HL.out.trans (left_bad acc hlt hnb hT)
        have hy := tokM_err hT
        rw [hT] at hc
        simp only [refTokVal] at hc
        have HC := hid hc
        clear hc hT hnb
        go_wp2_with fail
        refine HC.out.mono ?_
        rintro e' w1 ⟨rfl, hb1⟩
        have HB1 : Hid (Below w.heap.size w w1) := BW.out.trans (hb1.mono hsz)
        have hs1 : w.heap.size ≤ w1.heap.size := HB1.out.size
        clear hb1
        go_wp2_with fail
        rw [HEND.out]
        exact bodyPost_ret (v := .tuple #[.slice none 0 0, .int .i64 a, .int .i64 y]) (by simp [results, Tryz.results21, go_sem]) rfl ⟨rfl, HB1.out.alloc hs1 _⟩
      | ok q =>
        obtain ⟨t, k⟩ := q
        have hK := tokM_gt hT hlt
        have HLN := hid (left_good HL.out hlt hnb hT)
        rw [hT] at hc
        obtain ⟨kd, ta, tx, nm⟩ := t
        simp only [refTokVal] at hc
        have HC := hid hc
        clear hc hT hnb
        go_wp2_with fail
        refine HC.out.mono ?_
        rintro e' w1 ⟨rfl, hb1⟩
        have hs1 : wr.heap.size ≤ w1.heap.size := hb1.size
        have HB1 := hid hb1
        clear hb1
        go_wp2_with (at_builtin; refine wpList_append_lies _ rfl _ _ 44 rfl w.heap.size 61 i0 _ 4 40 Tryz.underlying44 hi0 hz0 hz1 hz2 rfl (by decide) u5 acc.length rows.flatten rfl ?hown ⟨w1.heap.size + 1, 0, none⟩ 1 1 [.int .i64 kd, .int .i64 ta, .string tx, .int .i64 nm] rfl rfl ?hnews ?hone (by decide) ?h63 ?hby ?hbase (w1.heap.size + 2) ?hH ?_)
        case hown => exact I.out.own3 ((HB1.out.alloc hs1 _).alloc (by simp; omega) _)
        case hnews => exact World.news_of_block (by simpa using heap_alloc_new (w1.alloc (.cells #[.int .i64 kd, .int .i64 ta, .string tx, .int .i64 nm] 61)) (.cells #[.int .i64 kd, .int .i64 ta, .string tx, .int .i64 nm] 61))
        case hone => intro u hu; simp at hu; rcases hu with rfl | rfl | rfl | rfl <;> rfl
        case h63 => unfold maxLen; omega
        case hby => omega
        case hbase => simp; omega
        case hH => simp
        intro g cap w4 hown4 hgrow hat hglt
        have B3 : Below wr.heap.size wr ((w1.alloc (.cells #[.int .i64 kd, .int .i64 ta, .string tx, .int .i64 nm] 61)).alloc (.cells #[.int .i64 kd, .int .i64 ta, .string tx, .int .i64 nm] 61)) := (HB1.out.alloc hs1 _).alloc (by simp; omega) _
        have hbw4 : Below w.heap.size w w4 := BW.out.trans ((B3.mono hsz).grown hgrow (by simp; omega) (fun x hx => (I.out.own.lt x hx).1))
        have I4 := hid (OutInv.step (x := ((kd, ta, tx, nm) : MTok)) tokRow_keep I.out hsz B3 rfl rfl hown4 hgrow (by simpa using hat))
        have HBW4 := hid hbw4
        clear hown4 hgrow hat B3 hbw4
        go_wp2_with fail
        go_roundg (s.size - k)
        case measure => omega
        case rel => exact ⟨k, rows ++ [_], acc ++ [_], by omega, by omega, by go_num, by simp; omega, HBW4.out, (by show OutInv _ _ _ _ _ _ _ _ _; simpa using I4.out), HLN.out⟩
    · have hlti : ¬ (i : Int) < (s.size : Int) := by omega
      have HEND : Hid (left s 0 [] = .ok acc) := HL.out.trans (left_end acc hlt)
      go_wp2_with fail
      rw [HEND.out]
      exact bodyPost_ret (v := .tuple #[u5, .int .i64 0, .int .i64 0]) (by simp [results, Tryz.results21, go_sem]) rfl ⟨⟨_, rfl, OutInv.rows_in (bytes := 40) tokRow_keep I.out (by omega), owns_roomy I.out.own⟩, BW.out⟩

/-- A text that is too long. -/
theorem refScan_long (s : ByteArray) (w : World) (hs : 20000 < s.size) :
    Calls Tryz.prog 21 #[.string s] w fun e w' => RefPost w (.error (0, 4)) e w' ∧ Below w.heap.size w w' := by
  have hsd : decide ((20000 : Int) < (s.size : Int)) = true := by simp; omega
  have hsi : (20000 : Int) < (s.size : Int) := by omega
  go_enter Tryz.func21, Tryz.ntmps21
  go_wp2
  exact bodyPost_ret (v := .tuple #[.slice none 0 0, .int .i64 0, .int .i64 4]) (by simp [results, Tryz.results21, go_sem]) rfl ⟨rfl, Below.refl _ _⟩

theorem scan_long (s : ByteArray) (w : World) (hs : 20000 < s.size) :
    Calls Tryz.prog 16 #[.string s] w fun e w' => ScanPost w (.error (0, 4)) e w' ∧ Below w.heap.size w w' := by
  have hsi : (20000 : Int) < (s.size : Int) := by omega
  go_enter Tryz.func16, Tryz.ntmps16
  go_wp2
  go_step3
  go_wp2
  first | rw [Exit.noGoto_ret] | skip
  exact bodyPost_ret (v := .tuple #[.slice none 0 0, .iface 49 (.agg #[.int .i64 0, .int .i64 4])]) (by simp [results, Tryz.results16, go_sem]) rfl ⟨rfl, Below.refl _ _⟩
end Go.Proofs.YtkpomcimaofkkaaGreatDoor
namespace Go.Proofs.YtkpomcimaofkkaaGreatDoor
set_option linter.unusedVariables false
set_option linter.unusedSimpArgs false
open Go.RowKit

theorem why_nil (w : World) : Calls Tryz.prog 31 #[.nilIface] w fun e w' => e = .returned (.tuple #[.int .i64 0, .int .i64 0]) ∧ Below w.heap.size w w' := by
  go_enter Tryz.func31, Tryz.ntmps31
  go_wp2
  go_ret2
  exact ⟨rfl, Below.refl _ _⟩

theorem assertFault (a y : Int) (w : World) : (Instr.typeAssert (.iface 49 (.agg #[.int .i64 a, .int .i64 y])) 27 49 true).run Tryz.prog w = .ok (.tuple #[.agg #[.int .i64 a, .int .i64 y], .bool true]) w := by kernel_rfl

set_option maxRecDepth 100000 in
set_option maxHeartbeats 1000000 in
theorem why_fault (a y : Int) (w : World) : Calls Tryz.prog 31 #[.iface 49 (.agg #[.int .i64 a, .int .i64 y])] w fun e w' => e = .returned (.tuple #[.int .i64 y, .int .i64 a]) ∧ Below w.heap.size w w' := by
  have hta := assertFault a y
  go_enter Tryz.func31, Tryz.ntmps31
  go_wp2
  go_quiet (fail)
  go_wp2
  go_ret2
  exact ⟨rfl, below_drewN ((Below.refl _ _).alloc (Nat.le_refl _) _) _⟩
/-- An error is a number at a place. -/
theorem is_nil (w : World) : Calls Tryz.prog 9 #[.nilIface, .int .i64 0, .int .i64 0] w fun e w' => e = .returned (.bool true) ∧ Below w.heap.size w w' := by
  go_enter Tryz.func9, Tryz.ntmps9
  go_wp2_with (go_at_call 31; refine (why_nil _).mono ?_; rintro e w' ⟨rfl, hb⟩)
  go_ret
  exact ⟨rfl, hb⟩

theorem is_fault (a y : Int) (w : World) : Calls Tryz.prog 9 #[.iface 49 (.agg #[.int .i64 a, .int .i64 y]), .int .i64 a, .int .i64 y] w fun e w' => e = .returned (.bool true) ∧ Below w.heap.size w w' := by
  have h1 : (a == a) = true := by simp
  have h2 : (y == y) = true := by simp
  go_enter Tryz.func9, Tryz.ntmps9
  go_wp2_with (go_at_call 31; refine (why_fault _ _ _).mono ?_; rintro e w' ⟨rfl, hb⟩)
  go_ret
  exact ⟨by simp, hb⟩

/-- Scan and its reference, at any text. -/
theorem scan_any (s : ByteArray) (w : World) (te : TypeId) (pe : Value) (hv : w.cell? ⟨6, 0, none⟩ = some (.iface te pe)) :
    Calls Tryz.prog 16 #[.string s] w fun e w' => ScanPost w (scanM s) e w' ∧ Below w.heap.size w w' := by
  by_cases h : 20000 < s.size
  · unfold scanM; rw [if_pos h]; exact scan_long s w h
  · rw [scanM_left (by omega)]; exact scan_walk s w (by omega) te pe hv

theorem refScan_any (s : ByteArray) (w : World) : Calls Tryz.prog 21 #[.string s] w fun e w' => RefPost w (scanM s) e w' ∧ Below w.heap.size w w' := by
  by_cases h : 20000 < s.size
  · unfold scanM; rw [if_pos h]; exact refScan_long s w h
  · rw [scanM_left (by omega)]; exact refScan_walk s w (by omega)

end Go.Proofs.YtkpomcimaofkkaaGreatDoor
namespace Go.Proofs.YtkpomcimaofkkaaGreatDoor.Rp
set_option linter.unusedVariables false
set_option linter.unusedSimpArgs false
open Go.RowKit Go.Lib

/-- What is read has a property. -/
def AllQ {α : Type} (P : α → Prop) (p : Qs α) : Prop := ∀ x r, p = some (x, r) → P x
theorem AllQ.bind {α β : Type} {n : Nat} {P : β → Prop} {p : Qs α} {f : α → List MTok → Qs β} (h : LeQ n p) (hf : ∀ x r, p = some (x, r) → r.length ≤ n → AllQ P (f x r)) : AllQ P (andQ p f) := by
  intro y s e
  cases p with
  | none => cases e
  | some z => exact hf z.1 z.2 rfl (h z.1 z.2 rfl) y s e
theorem AllQ.done {α : Type} {P : α → Prop} {x : α} {l : List MTok} (h : P x) : AllQ P (some (x, l) : Qs α) := by
  intro y r e; cases e; exact h
theorem LeQ.mono {α : Type} {n m : Nat} {p : Qs α} (h : LeQ n p) (hm : n ≤ m) : LeQ m p := fun x r e => Nat.le_trans (h x r e) hm
theorem deps_cnt : ∀ (f : Nat) (l : List MTok) (acc x : List MW) (r : List MTok), qDeps f l acc = some (x, r) → x.length + r.length ≤ acc.length + l.length
  | 0, l, acc, x, r, h => by cases h; exact Nat.le_refl _
  | f + 1, l, acc, x, r, h => by
    cases hs : qSees l mFrom with
    | false => rw [deps_end hs] at h; cases h; exact Nat.le_refl _
    | true =>
      rw [deps_more hs] at h
      cases hd : qDep l with
      | none => rw [hd] at h; cases h
      | some z =>
        rw [hd] at h
        have h1 := deps_cnt f z.2 _ x r h
        have h2 := dep_lt l z.1 z.2 hd
        simp at h1
        omega
theorem an_cnt (l : List MTok) : AllQ (fun a : MA => a.cyc.length ≤ l.length) (qAn l) := by
  refine AllQ.bind (n := l.length) (text_lt _ l).le fun _ l1 _ h1 => ?_
  refine AllQ.bind ((one_lt _ l1).le.mono h1) fun _ l2 _ h2 => ?_
  refine AllQ.bind ((num_lt l2).le.mono h2) fun _ l3 _ h3 => ?_
  refine AllQ.bind ((num_lt l3).le.mono h3) fun _ l4 _ h4 => ?_
  refine AllQ.bind ((num_lt l4).le.mono h4) fun _ l5 _ h5 => ?_
  refine AllQ.bind ((key_lt l5).le.mono h5) fun _ l6 _ h6 => ?_
  refine AllQ.bind ((num_lt l6).le.mono h6) fun _ l7 _ h7 => ?_
  refine AllQ.bind ((either_lt _ _ l7).le.mono h7) fun _ l8 _ h8 => ?_
  refine AllQ.bind ((one_lt _ l8).le.mono h8) fun _ l9 _ h9 => ?_
  refine AllQ.bind ((deps_le _ l9 _).mono h9) fun c l10 hc h10 => ?_
  have h := deps_cnt _ _ _ _ _ hc
  refine AllQ.done ?_
  show c.length ≤ l.length
  simp at h
  omega
theorem ans_cnt : ∀ (f : Nat) (l : List MTok) (acc x : List MA) (r : List MTok), qAns f l acc = some (x, r) → x.length + r.length ≤ acc.length + l.length ∧ ∀ a ∈ x, a ∈ acc ∨ a.cyc.length ≤ l.length
  | 0, l, acc, x, r, h => by cases h; exact ⟨Nat.le_refl _, fun a ha => .inl ha⟩
  | f + 1, l, acc, x, r, h => by
    cases hs : qSees l wAnomaly with
    | false => rw [ans_end hs] at h; cases h; exact ⟨Nat.le_refl _, fun a ha => .inl ha⟩
    | true =>
      rw [ans_more hs] at h
      cases hd : qAn l with
      | none => rw [hd] at h; cases h
      | some z =>
        rw [hd] at h
        have h2 := an_lt l z.1 z.2 hd
        have hz : z.1.cyc.length ≤ l.length := an_cnt l z.1 z.2 hd
        change andQ (qLineEnd z.2) (fun _ r => qAns f r (acc ++ [z.1])) = some (x, r) at h
        cases he : qLineEnd z.2 with
        | none => rw [he] at h; cases h
        | some y =>
          rw [he] at h
          have h3 := lineEnd_lt z.2 y.1 y.2 he
          obtain ⟨h1, h4⟩ := ans_cnt f y.2 _ x r h
          refine ⟨by simp at h1; omega, fun a ha => ?_⟩
          rcases h4 a ha with q | q
          · rcases List.mem_append.1 q with q | q
            · exact .inl q
            · simp at q; subst q; exact .inr hz
          · exact .inr (by omega)
theorem ans_le (f : Nat) (l : List MTok) (acc : List MA) (h : acc = []) : LeQ l.length (qAns f l acc) := fun x r e => by
  have := (ans_cnt f l acc x r e).1
  subst h
  simp at this
  omega
/-- A report that fits. -/
def FitR (N : Nat) (r : MR) : Prop := r.2.2.1.length ≤ N ∧ ∀ a ∈ r.2.2.1, a.cyc.length ≤ N
theorem end_all {P : MR → Prop} {r : MR} (h : P r) (l : List MTok) : AllQ P (qEnd r l) := by
  intro x s e
  unfold qEnd at e
  split at e
  · cases e; exact h
  · cases e
theorem rep_cnt (T : List MTok) : AllQ (FitR T.length) (qRep T) := by
  refine AllQ.bind (n := T.length) ((text_lt _ (qLines T)).le.mono (lines_le T)) fun _ l1 _ h1 => ?_
  refine AllQ.bind ((num_lt l1).le.mono h1) fun _ l2 _ h2 => ?_
  refine AllQ.bind ((lineEnd_lt l2).le.mono h2) fun _ l3 _ h3 => ?_
  refine AllQ.bind ((text_lt _ l3).le.mono h3) fun _ l4 _ h4 => ?_
  refine AllQ.bind ((either_lt _ _ l4).le.mono h4) fun _ l5 _ h5 => ?_
  refine AllQ.bind ((lineEnd_lt l5).le.mono h5) fun _ l6 _ h6 => ?_
  refine AllQ.bind ((ans_le _ l6 _ rfl).mono h6) fun al l7 ha h7 => ?_
  have hf : al.length ≤ T.length ∧ ∀ a ∈ al, a.cyc.length ≤ T.length := by
    have h := ans_cnt _ _ _ _ _ ha
    refine ⟨by have := h.1; simp at this; omega, fun a hm => ?_⟩
    rcases h.2 a hm with q | q
    · cases q
    · omega
  refine AllQ.bind ((text_lt _ l7).le.mono h7) fun _ l8 _ h8 => ?_
  refine AllQ.bind ((one_lt _ l8).le.mono h8) fun _ l9 _ h9 => ?_
  refine AllQ.bind ((lineEnd_lt l9).le.mono h9) fun _ l10 _ h10 => ?_
  refine AllQ.bind ((text_lt _ l10).le.mono h10) fun _ l11 _ h11 => ?_
  refine AllQ.bind ((one_lt _ l11).le.mono h11) fun wz l12 _ h12 => ?_
  split
  · intro x r e
    cases ho : qOrder l12 with
    | none => rw [ho] at e; cases e
    | some z =>
      rw [ho] at e
      refine end_all (P := FitR T.length) ?_ z.2 x r e
      exact hf
  · refine end_all (P := FitR T.length) ?_ l12
    exact hf
theorem FitR.each {N : Nat} {r : MR} (h : FitR N r) (j : Nat) (hj : j < r.2.2.1.length) : (r.2.2.1.getD j default).cyc.length ≤ N := by
  refine h.2 _ ?_
  rw [List.getD, List.getElem?_eq_getElem hj]
  exact List.getElem_mem _
abbrev zRep : Array Value := #[.int .i64 0, .bool false, .slice none 0 0, .int .i64 0, .int .i64 0, .slice none 0 0]
theorem assertNo (w : World) : (Instr.typeAssert (.iface 30 (.int .i64 210)) 20 30 true).run Tryz.prog w = .ok (.tuple #[.int .i64 210, .bool true]) w := by kernel_rfl
theorem BoxW.cells {w : World} {o : Nat} {t : TypeId} {a b c d e f : Value} (h : BoxW w o t #[a, b, c, d, e, f]) : w.cell? ⟨o, 0, none⟩ = some a ∧ w.cell? ⟨o, 1, none⟩ = some b ∧ w.cell? ⟨o, 2, none⟩ = some c ∧ w.cell? ⟨o, 3, none⟩ = some d ∧ w.cell? ⟨o, 4, none⟩ = some e ∧ w.cell? ⟨o, 5, none⟩ = some f :=
  ⟨h.cell 0, h.cell 1, h.cell 2, h.cell 3, h.cell 4, h.cell 5⟩
set_option maxHeartbeats 4000000 in
set_option maxRecDepth 100000 in
theorem catch_form (pl pe : Nat) (a b c d f g : Value) (older : List PanicEntry) (w : World) (hc : BoxW w pl 25 #[a, b, c, d, f, g]) (he : BoxW w pe 27 #[.nilIface]) (hne : pl ≠ pe) :
    CallsD Tryz.prog 17 #[.pointer (some ⟨pl, 0, none⟩), .pointer (some ⟨pe, 0, none⟩)] (.panicking ({ v := .iface 30 (.int .i64 210), recovered := false } :: older)) w fun e u' w' =>
      e = .returned (.tuple #[]) ∧ u' = .panicking ({ v := .iface 30 (.int .i64 210), recovered := true } :: older) ∧ BoxW w' pl 25 zRep ∧ w'.cell? ⟨pe, 0, none⟩ = some (.iface 49 (.agg #[.int .i64 0, .int .i64 210])) ∧ w.heap.size ≤ w'.heap.size ∧ (∀ b, b < w.heap.size → b ≠ pl → b ≠ pe → w'.heap[b]? = w.heap[b]?) ∧ w'.os = w.os ∧ w'.tape = w.tape ∧ w'.output = w.output := by
  have hpl : pl < w.heap.size := hc.lt
  have hpe : pe < w.heap.size := he.lt
  have HC := hid hc
  have HE := hid he
  have hta := assertNo
  obtain ⟨k0, k1, k2, k3, k4, k5⟩ := hc.cells
  have z0 := hc.soft 0
  have z1 := hc.soft 1
  have z2 := hc.soft 2
  have z3 := hc.soft 3
  have z4 := hc.soft 4
  have z5 := hc.soft 5
  have e0 : w.cell? ⟨pe, 0, none⟩ = some .nilIface := he.cell 0
  have ez := he.soft 0
  clear hc he
  refine callsD_of_wpS Tryz.func17 rfl fun c₀ cs hu => ?_
  apply wpS_seq
  apply wpS_region
  simp [wpOpsS, go_sem, recoverD, hu, Tryz.ntmps17, Exit.thenS]
  refine wpS_of_wp ?_
  have e1 : (#[Value.pointer (some ⟨pl, 0, none⟩), Value.pointer (some ⟨pe, 0, none⟩)] ++ ((Array.replicate 18 undef).setIfInBounds 3 (Value.iface 30 (.int .i64 210))).setIfInBounds 0 (Value.iface 30 (.int .i64 210)) : Array Value) = #[Value.pointer (some ⟨pl, 0, none⟩), Value.pointer (some ⟨pe, 0, none⟩), Value.iface 30 (.int .i64 210), undef, undef, Value.iface 30 (.int .i64 210), undef, undef, undef, undef, undef, undef, undef, undef, undef, undef, undef, undef, undef, undef] := rfl
  rw [e1]
  clear e1
  go_wp2_with fail
  have X0 := HC.out.set (i := 0) (u := .int .i64 0) (cs' := #[.int .i64 0, b, c, d, f, g]) rfl
  have X1 := X0.set (i := 1) (u := .bool false) (cs' := #[.int .i64 0, .bool false, c, d, f, g]) rfl
  have X2 := X1.set (i := 2) (u := .slice none 0 0) (cs' := #[.int .i64 0, .bool false, .slice none 0 0, d, f, g]) rfl
  have X3 := X2.set (i := 3) (u := .int .i64 0) (cs' := #[.int .i64 0, .bool false, .slice none 0 0, .int .i64 0, f, g]) rfl
  have X4 := X3.set (i := 4) (u := .int .i64 0) (cs' := #[.int .i64 0, .bool false, .slice none 0 0, .int .i64 0, .int .i64 0, g]) rfl
  have X5 := X4.set (i := 5) (u := .slice none 0 0) (cs' := zRep) rfl
  have E0 := ((((((HE.out.other (g := pl) (i := 0) (u := .int .i64 0) (Ne.symm hne)).other (g := pl) (i := 1) (u := .bool false) (Ne.symm hne)).other (g := pl) (i := 2) (u := .slice none 0 0) (Ne.symm hne)).other (g := pl) (i := 3) (u := .int .i64 0) (Ne.symm hne)).other (g := pl) (i := 4) (u := .int .i64 0) (Ne.symm hne)).other (g := pl) (i := 5) (u := .slice none 0 0) (Ne.symm hne))
  have XB := X5.other (i := 0) (u := .iface 49 (.agg #[.int .i64 0, .int .i64 210])) hne
  have XE := (E0.set (i := 0) (u := .iface 49 (.agg #[.int .i64 0, .int .i64 210])) (cs' := #[.iface 49 (.agg #[.int .i64 0, .int .i64 210])]) rfl).cell 0
  clear X0 X1 X2 X3 X4 X5 E0
  refine ⟨rfl, _, rfl, .tuple #[], results_none rfl _ _ _, rfl, rfl, ?_⟩
  refine ⟨XB, XE, ?_, ?_, by simp only [World.setCell], by simp only [World.setCell], by simp only [World.setCell]⟩
  · simp [World.setCell]
  · intro q hb h1 h2
    simp only [World.setCell, Array.getElem?_modify]
    rw [if_neg (fun c => h2 c.symm), if_neg (fun c => h1 c.symm), if_neg (fun c => h1 c.symm), if_neg (fun c => h1 c.symm), if_neg (fun c => h1 c.symm), if_neg (fun c => h1 c.symm), if_neg (fun c => h1 c.symm)]
set_option maxHeartbeats 4000000 in
set_option maxRecDepth 100000 in
theorem catch_idle (p q : Addr) (w : World) :
    CallsD Tryz.prog 17 #[.pointer (some p), .pointer (some q)] .returning w fun e u' w' => e = .returned (.tuple #[]) ∧ u' = .returning ∧ w' = w := by
  refine callsD_of_wpS Tryz.func17 rfl fun c₀ cs hu => ?_
  apply wpS_seq
  apply wpS_region
  simp [wpOpsS, go_sem, recoverD, hu, Tryz.ntmps17, Exit.thenS]
  refine wpS_of_wp ?_
  have e1 : (#[Value.pointer (some p), Value.pointer (some q)] ++ ((Array.replicate 18 undef).setIfInBounds 3 Value.nilIface).setIfInBounds 0 Value.nilIface : Array Value) = #[Value.pointer (some p), Value.pointer (some q), Value.nilIface, undef, undef, Value.nilIface, undef, undef, undef, undef, undef, undef, undef, undef, undef, undef, undef, undef, undef, undef] := rfl
  rw [e1]
  clear e1
  go_wp2_with fail
  refine ⟨rfl, _, ?_, .tuple #[], results_none rfl _ _ _, rfl, rfl, rfl⟩
  cases c₀
  simp_all
end Go.Proofs.YtkpomcimaofkkaaGreatDoor.Rp
