/-
  Walk of the reference's Print: any tokens as a text.
-/
import Derived.Test.YtodbpplgpaokjaaDoorPrint1
import Derived.Laws.Concat
namespace Go.Proofs.YtodbpplgpaokjaaDoor
set_option linter.unusedVariables false
set_option linter.unusedSimpArgs false
open Go.RowKit Go.Lib

theorem app_data (a b : ByteArray) : (a ++ b).data.toList = a.data.toList ++ b.data.toList := by simp [ByteArray.data_append]
theorem size_list (a : ByteArray) : a.size = a.data.toList.length := by simp
theorem same_text {a b : ByteArray} (h : a.data.toList = b.data.toList) : a = b := by
  rw [ByteArray.ext_iff, ← Array.toList_inj]; exact h

set_option maxHeartbeats 4000000 in
set_option maxRecDepth 100000 in
/-- The reference's Print. -/
theorem refPrint_any {S : Nat → Prop} (v : Value) (l : List MTok) (w : World) (h : ToksIn S w v l) (hN : NumsOk l) (hP : (printL false l).length ≤ 140737488355328) :
    Calls Tryd.prog 15 #[v] w fun e w' => e = .returned (.string ⟨(printL false l).toArray⟩) ∧ Below w.heap.size w w' := by
  have H := hid h
  have HN := hid hN
  have HL := hid hP
  have hbig : l.length * 40 ≤ 140737488355328 := by obtain ⟨_, _, _, hl, _⟩ := h; exact hl
  obtain ⟨va, vc, rfl, -⟩ := id h
  clear h hN hP
  go_enter Tryd.func15, Tryd.ntmps15
  go_wp2_with fail
  go_loopg [3, 4, 10] l.length (fun g vs fl i wr => ∃ (k : Nat) (il : Bool) (s : ByteArray), k ≤ l.length ∧ l.length - k ≤ g ∧ i = .int .i64 k ∧ fl = .bool (!il) ∧ vs = .string s ∧ Aside (s.data.toList ++ printL il (l.drop k) = printL false l) ∧ Aside (Below w.heap.size w wr))
  case atStart => exact ⟨0, false, ⟨#[]⟩, Nat.zero_le _, by omega, rfl, rfl, rfl, rfl, Below.refl _ _⟩
  case round =>
    obtain ⟨k, il, s, hk, hg, rfl, rfl, rfl, P, B⟩ := hrel
    by_cases hlt : k < l.length
    · have hlti : (k : Int) < (l.length : Int) := by omega
      have t4 := H.out.later (T := Any) B.out (fun _ _ _ => trivial)
      obtain ⟨ao, c, hsl, _, hc⟩ := RowsIn.cells t4 (by omega)
      cases hsl
      obtain ⟨bb, oo, cs, rfl, hbb, _, e1, k1⟩ := hc k hlt
      clear hc t4
      unfold TokRow at e1
      subst e1
      have p0 := P.out
      rw [drop_at hlt] at p0
      have n0 := HN.out _ (mem_at hlt)
      have d0 : wr.cell? ⟨bb, oo + k * 4, none⟩ = _ := k1 0 _ rfl
      have d1 := k1 1 _ rfl
      have d2 := k1 2 _ rfl
      have d3 := k1 3 _ rfl
      clear k1 P
      generalize l.getD k default = t at *
      obtain ⟨x0, x1, x2, x3⟩ := t
      have hBs : w.heap.size ≤ wr.heap.size := B.out.size
      have HBox : Hid (∀ o, Below w.heap.size w (wr.alloc o)) := fun o => B.out.trans ((below_box wr o).mono hBs)
      by_cases c1 : x0 = 1
      · subst c1
        have PT := hid (print_word (t := (1, x1, x2, x3)) p0 (by simp))
        clear p0 n0
        cases il with
        | false =>
          have q0 : (s ++ x2).data.toList ++ printL true (l.drop (k + 1)) = printL false l := by rw [app_data]; exact PT.out
          have hz : s.size + x2.size ≤ 140737488355328 := by have := len_of q0 HL.out; rw [← size_list, ByteArray.size_append] at this; exact this
          have hadd : ∀ wx, (Op.stringOp .add s x2).run Tryd.prog wx = .ok (.string (s ++ x2)) wx := fun wx => run_string_add_sum wx _ _ (by omega)
          have Q := hid q0
          clear q0
          go_wp2_with fail
          go_roundg (l.length - (k + 1))
          case measure => omega
          case rel => exact ⟨k + 1, true, _, by omega, by omega, by go_num, rfl, rfl, Q.out, HBox.out _⟩
        | true =>
          have q0 : ((s ++ (⟨#[32]⟩ : ByteArray)) ++ x2).data.toList ++ printL true (l.drop (k + 1)) = printL false l := by rw [app_data, app_data, List.append_assoc s.data.toList]; exact PT.out
          have hz : s.size + 1 + x2.size ≤ 140737488355328 := by have := len_of q0 HL.out; rw [← size_list, ByteArray.size_append, ByteArray.size_append] at this; exact this
          have hz1 : (s ++ (⟨#[32]⟩ : ByteArray)).size = s.size + 1 := ByteArray.size_append
          have hadd0 : ∀ wx, (Op.stringOp .add s ⟨#[32]⟩).run Tryd.prog wx = .ok (.string (s ++ ⟨#[32]⟩)) wx := fun wx => run_string_add_sum wx _ _ (by show s.size + 1 ≤ _; omega)
          generalize s ++ (⟨#[32]⟩ : ByteArray) = s1 at q0 hz1 hadd0
          have hadd : ∀ wx, (Op.stringOp .add s1 x2).run Tryd.prog wx = .ok (.string (s1 ++ x2)) wx := fun wx => run_string_add_sum wx _ _ (by omega)
          have Q := hid q0
          clear q0
          go_wp2_with fail
          go_roundg (l.length - (k + 1))
          case measure => omega
          case rel => exact ⟨k + 1, true, _, by omega, by omega, by go_num, rfl, rfl, Q.out, HBox.out _⟩
      by_cases c3 : x0 = 3
      · subst c3
        have PT := hid (print_word (t := (3, x1, x2, x3)) p0 (by simp))
        clear p0 n0
        cases il with
        | false =>
          have q0 : (s ++ x2).data.toList ++ printL true (l.drop (k + 1)) = printL false l := by rw [app_data]; exact PT.out
          have hz : s.size + x2.size ≤ 140737488355328 := by have := len_of q0 HL.out; rw [← size_list, ByteArray.size_append] at this; exact this
          have hadd : ∀ wx, (Op.stringOp .add s x2).run Tryd.prog wx = .ok (.string (s ++ x2)) wx := fun wx => run_string_add_sum wx _ _ (by omega)
          have Q := hid q0
          clear q0
          go_wp2_with fail
          go_roundg (l.length - (k + 1))
          case measure => omega
          case rel => exact ⟨k + 1, true, _, by omega, by omega, by go_num, rfl, rfl, Q.out, HBox.out _⟩
        | true =>
          have q0 : ((s ++ (⟨#[32]⟩ : ByteArray)) ++ x2).data.toList ++ printL true (l.drop (k + 1)) = printL false l := by rw [app_data, app_data, List.append_assoc s.data.toList]; exact PT.out
          have hz : s.size + 1 + x2.size ≤ 140737488355328 := by have := len_of q0 HL.out; rw [← size_list, ByteArray.size_append, ByteArray.size_append] at this; exact this
          have hz1 : (s ++ (⟨#[32]⟩ : ByteArray)).size = s.size + 1 := ByteArray.size_append
          have hadd0 : ∀ wx, (Op.stringOp .add s ⟨#[32]⟩).run Tryd.prog wx = .ok (.string (s ++ ⟨#[32]⟩)) wx := fun wx => run_string_add_sum wx _ _ (by show s.size + 1 ≤ _; omega)
          generalize s ++ (⟨#[32]⟩ : ByteArray) = s1 at q0 hz1 hadd0
          have hadd : ∀ wx, (Op.stringOp .add s1 x2).run Tryd.prog wx = .ok (.string (s1 ++ x2)) wx := fun wx => run_string_add_sum wx _ _ (by omega)
          have Q := hid q0
          clear q0
          go_wp2_with fail
          go_roundg (l.length - (k + 1))
          case measure => omega
          case rel => exact ⟨k + 1, true, _, by omega, by omega, by go_num, rfl, rfl, Q.out, HBox.out _⟩
      by_cases c2 : x0 = 2
      · subst c2
        obtain ⟨n1, n2⟩ := n0 rfl
        simp only at n1 n2
        have p1 := print_num (t := (2, x1, x2, x3)) p0 rfl
        simp only at p1
        have HP1 := hid p1
        clear p0 n0 p1
        have HI := fun W => decimal_any x3 W n1 n2
        clear n1 n2
        go_wp2_with fail
        refine (HI _).mono ?_
        rintro e w4 ⟨⟨X, rfl, hX⟩, b4⟩
        have p2 := HP1.out
        rw [← hX] at p2
        have PT := hid p2
        have HB4 : Hid (Below w.heap.size w w4) := (HBox.out _).trans (b4.mono (HBox.out _).size)
        clear p2 hX b4 HP1 HI
        cases il with
        | false =>
          have q0 : (s ++ X).data.toList ++ printL true (l.drop (k + 1)) = printL false l := by rw [app_data]; exact PT.out
          have hz : s.size + X.size ≤ 140737488355328 := by have := len_of q0 HL.out; rw [← size_list, ByteArray.size_append] at this; exact this
          have hadd : ∀ wx, (Op.stringOp .add s X).run Tryd.prog wx = .ok (.string (s ++ X)) wx := fun wx => run_string_add_sum wx _ _ (by omega)
          have Q := hid q0
          clear q0
          go_wp2_with fail
          go_roundg (l.length - (k + 1))
          case measure => omega
          case rel => exact ⟨k + 1, true, _, by omega, by omega, by go_num, rfl, rfl, Q.out, HB4.out⟩
        | true =>
          have q0 : ((s ++ (⟨#[32]⟩ : ByteArray)) ++ X).data.toList ++ printL true (l.drop (k + 1)) = printL false l := by rw [app_data, app_data, List.append_assoc s.data.toList]; exact PT.out
          have hz : s.size + 1 + X.size ≤ 140737488355328 := by have := len_of q0 HL.out; rw [← size_list, ByteArray.size_append, ByteArray.size_append] at this; exact this
          have hz1 : (s ++ (⟨#[32]⟩ : ByteArray)).size = s.size + 1 := ByteArray.size_append
          have hadd0 : ∀ wx, (Op.stringOp .add s ⟨#[32]⟩).run Tryd.prog wx = .ok (.string (s ++ ⟨#[32]⟩)) wx := fun wx => run_string_add_sum wx _ _ (by show s.size + 1 ≤ _; omega)
          generalize s ++ (⟨#[32]⟩ : ByteArray) = s1 at q0 hz1 hadd0
          have hadd : ∀ wx, (Op.stringOp .add s1 X).run Tryd.prog wx = .ok (.string (s1 ++ X)) wx := fun wx => run_string_add_sum wx _ _ (by omega)
          have Q := hid q0
          clear q0
          go_wp2_with fail
          go_roundg (l.length - (k + 1))
          case measure => omega
          case rel => exact ⟨k + 1, true, _, by omega, by omega, by go_num, rfl, rfl, Q.out, HB4.out⟩
      by_cases c4 : x0 = 4
      · subst c4
        have q0 : (s ++ (⟨#[10]⟩ : ByteArray)).data.toList ++ printL false (l.drop (k + 1)) = printL false l := by rw [app_data]; exact print_line (t := (4, x1, x2, x3)) p0 rfl
        clear p0 n0
        have hz : s.size + 1 ≤ 140737488355328 := by have := len_of q0 HL.out; rw [← size_list, ByteArray.size_append] at this; exact this
        have hadd : ∀ wx, (Op.stringOp .add s ⟨#[10]⟩).run Tryd.prog wx = .ok (.string (s ++ ⟨#[10]⟩)) wx := fun wx => run_string_add_sum wx _ _ (by show s.size + 1 ≤ _; omega)
        have Q := hid q0
        clear q0
        go_wp2_with fail
        go_roundg (l.length - (k + 1))
        case measure => omega
        case rel => exact ⟨k + 1, false, _, by omega, by omega, by go_num, rfl, rfl, Q.out, HBox.out _⟩
      have PT := hid (print_none (t := (x0, x1, x2, x3)) p0 c1 c2 c3 c4)
      clear p0 n0
      have e1 : (x0 == 1) = false := by simpa using c1
      have e2 : (x0 == 2) = false := by simpa using c2
      have e3 : (x0 == 3) = false := by simpa using c3
      have e4 : (x0 == 4) = false := by simpa using c4
      go_wp2_with fail
      go_roundg (l.length - (k + 1))
      case measure => omega
      case rel => exact ⟨k + 1, il, s, by omega, by omega, by go_num, rfl, rfl, PT.out, HBox.out _⟩
    · have hk' : k = l.length := by omega
      subst hk'
      have hbs : s = ⟨(printL false l).toArray⟩ := by have := P.out; rw [List.drop_length] at this; exact same_text (by simpa [printL] using this)
      subst hbs
      clear P
      go_wp2_with fail
      go_ret
      exact ⟨rfl, B.out⟩
end Go.Proofs.YtodbpplgpaokjaaDoor
