/-
  The document's reader of a report's text: a token taken; a word, a number, lines' ends, a key, one of some words.
  The document's reader of a report's text: lines' ends, a level; what is left is no more.
-/
import Derived.Test.YtkpomcimaofkkaaGreatDoorU23
namespace Go.Proofs.YtkpomcimaofkkaaGreatDoor.Rp
set_option linter.unusedVariables false
set_option linter.unusedSimpArgs false
open Go.RowKit Go.Lib

theorem box_put4 {w : World} {o : Nat} {t : TypeId} {a b c d a' b' c' d' : Value} (h : BoxW w o t #[a, b, c, d]) : BoxW ((((w.setCell ⟨o, 0, none⟩ a').setCell ⟨o, 1, none⟩ b').setCell ⟨o, 2, none⟩ c').setCell ⟨o, 3, none⟩ d') o t #[a', b', c', d'] :=
  (((h.set (i := 0) (u := a') (cs' := #[a', b, c, d]) rfl).set (i := 1) (u := b') (cs' := #[a', b', c, d]) rfl).set (i := 2) (u := c') (cs' := #[a', b', c', d]) rfl).set (i := 3) (u := d') rfl
/-- What a part of the document's reader leaves. -/
def DT {α : Type} (bx : Nat) (w : World) (val : α → Value) (z : α × Qr) (e : Ending) (w' : World) : Prop := e = .returned (val z.1) ∧ DQ bx z.2 w' ∧ Beside bx w w'
abbrev tkZ : Array Value := #[.int .i64 0, .int .i64 0, .string ⟨#[]⟩, .int .i64 0]
set_option maxHeartbeats 4000000 in
set_option maxRecDepth 100000 in
theorem dtake_no (bx : Nat) (k : Int) (x : ByteArray) (r : Qr) (w : World) (h : DQ bx r w) (hn : rqIs r k x = false) :
    Calls Tryz.prog 23 #[.pointer (some ⟨bx, 0, none⟩), .int .i64 k, .string x] w fun e w' => DT bx w tokV ((0, 0, ⟨#[]⟩, 0), (r.1, true)) e w' := by
  obtain ⟨W, hW⟩ : ∃ W, w.alloc (.cells tkZ 61) = W := ⟨_, rfl⟩
  have hlt := h.lt
  have BW1 : Hid (Below w.heap.size w W) := by rw [← hW]; exact below_box _ _
  have H1 : DQ bx r W := h.later BW1.out
  have XB : BoxW W w.heap.size 61 tkZ := by rw [← hW]; exact box_new _ _ _
  obtain ⟨o, ho⟩ : ∃ o, w.heap.size = o := ⟨_, rfl⟩
  rw [ho] at XB
  have IS := hid (dis_is bx k x r W H1)
  rw [hn] at IS
  have x0 : W.cell? ⟨o, 0, none⟩ = some (.int .i64 0) := XB.cell 0
  have x1 : W.cell? ⟨o, 1, none⟩ = some (.int .i64 0) := XB.cell 1
  have x2 : W.cell? ⟨o, 2, none⟩ = some (.string ⟨#[]⟩) := XB.cell 2
  have x3 : W.cell? ⟨o, 3, none⟩ = some (.int .i64 0) := XB.cell 3
  have y0 := XB.soft 0
  have y1 := XB.soft 1
  have y2 := XB.soft 2
  have y3 := XB.soft 3
  have cb := H1.bad
  have zb := H1.z1
  have hob : bx < o := by rw [← ho]; exact hlt
  have HD := hid H1
  have BE : Hid (Beside bx w W) := Beside.of_below BW1.out
  have hoo : w.heap.size ≤ o := by omega
  clear h H1 XB BW1
  go_enter Tryz.func23, Tryz.ntmps23
  go_wp2_with (go_at_call 22; refine IS.out.mono ?_; rintro e w2 ⟨rfl, rfl⟩)
  refine bodyPost_ret (v := tokV (0, 0, ⟨#[]⟩, 0)) (by simp [results, Tryz.results23, go_sem, x0, x1, x2, x3]) rfl ⟨rfl, ?_, ?_⟩
  · repeat (refine DQ.other ?_ hob _)
    exact HD.out.fail
  · repeat (refine Beside.setNew ?_ hoo _)
    exact BE.out.setCell (p := ⟨bx, 1, none⟩) rfl _
set_option maxHeartbeats 4000000 in
set_option maxRecDepth 100000 in
theorem dtake_yes (bx : Nat) (k : Int) (x : ByteArray) (t : MTok) (l : List MTok) (w : World) (h : DQ bx (t :: l, false) w) (hn : rqIs (t :: l, false) k x = true) :
    Calls Tryz.prog 23 #[.pointer (some ⟨bx, 0, none⟩), .int .i64 k, .string x] w fun e w' => DT bx w tokV (t, (l, false)) e w' := by
  obtain ⟨W, hW⟩ : ∃ W, w.alloc (.cells tkZ 61) = W := ⟨_, rfl⟩
  have hlt := h.lt
  have BW1 : Hid (Below w.heap.size w W) := by rw [← hW]; exact below_box _ _
  have H1 : DQ bx (t :: l, false) W := h.later BW1.out
  have XB : BoxW W w.heap.size 61 tkZ := by rw [← hW]; exact box_new _ _ _
  have hsz : Hid (W.heap.size = w.heap.size + 1) := by rw [← hW]; show _ = _; simp
  obtain ⟨o, ho⟩ : ∃ o, w.heap.size = o := ⟨_, rfl⟩
  rw [ho] at XB
  have IS := hid (dis_is bx k x (t :: l, false) W H1)
  rw [hn] at IS
  obtain ⟨v, c0, hle⟩ := H1.left
  have HLE := hid hle
  obtain ⟨ao, c, rfl, hc, hj⟩ := hle
  obtain ⟨b, off, rfl, hbb, hcs⟩ := hj (by simp)
  have d0 : W.cell? ⟨b, off, none⟩ = some (.int .i64 t.1) := by simpa using hcs 0 (by simp) 0 _ rfl
  have d1 : W.cell? ⟨b, off + 1, none⟩ = some (.int .i64 t.2.1) := by simpa using hcs 0 (by simp) 1 _ rfl
  have d2 : W.cell? ⟨b, off + 2, none⟩ = some (.string t.2.2.1) := by simpa using hcs 0 (by simp) 2 _ rfl
  have d3 : W.cell? ⟨b, off + 3, none⟩ = some (.int .i64 t.2.2.2) := by simpa using hcs 0 (by simp) 3 _ rfl
  have x0 : W.cell? ⟨o, 0, none⟩ = some (.int .i64 0) := XB.cell 0
  have x1 : W.cell? ⟨o, 1, none⟩ = some (.int .i64 0) := XB.cell 1
  have x2 : W.cell? ⟨o, 2, none⟩ = some (.string ⟨#[]⟩) := XB.cell 2
  have x3 : W.cell? ⟨o, 3, none⟩ = some (.int .i64 0) := XB.cell 3
  have y0 := XB.soft 0
  have y1 := XB.soft 1
  have y2 := XB.soft 2
  have y3 := XB.soft 3
  have z0 := H1.z0
  have hob : bx < o := by rw [← ho]; exact hlt
  have hoo : w.heap.size ≤ o := by omega
  have hrp : (0 : Int) < (l.length : Int) + 1 := by omega
  have hr0 : 0 < l.length + 1 := by omega
  have hblt : b < W.heap.size := by have := H1.lt; omega
  have hsW := hsz.out
  have hbW : bx < W.heap.size := H1.lt
  have hoW : o < W.heap.size := XB.lt
  have hbo : ¬ b = o := by omega
  have hxo : ¬ bx = o := by omega
  have hbx : ¬ b = bx := by omega
  have hoW2 : ¬ o = W.heap.size := by omega
  have hbW2 : ¬ bx = W.heap.size := by omega
  have hblW2 : ¬ b = W.heap.size := by omega
  have HD := hid H1
  have XH := hid XB
  have BE : Hid (Beside bx w W) := Beside.of_below BW1.out
  clear h H1 XB BW1 hcs hj hsW
  have c0' : W.cell? ⟨bx, 0, none⟩ = some (.slice (some ⟨b, off, none⟩) (l.length + 1) c) := c0
  clear c0
  have hww : w.heap.size ≤ W.heap.size := by omega
  have hxW : bx < W.heap.size := hbW
  go_enter Tryz.func23, Tryz.ntmps23
  go_wp2_with (go_at_call 22; refine IS.out.mono ?_; rintro e w2 ⟨rfl, rfl⟩)
  · have XF : BoxW ((((((W.setCell ⟨bx, 0, none⟩ (.slice (some ⟨b, off, none⟩) l.length 0)).setCell ⟨o, 0, none⟩ (.int .i64 t.1)).setCell ⟨o, 1, none⟩ (.int .i64 t.2.1)).setCell ⟨o, 2, none⟩ (.string t.2.2.1)).setCell ⟨o, 3, none⟩ (.int .i64 t.2.2.2)).alloc (.cells #[.int .i64 t.1, .int .i64 t.2.1, .string t.2.2.1, .int .i64 t.2.2.2] 61)) o 61 #[.int .i64 t.1, .int .i64 t.2.1, .string t.2.2.1, .int .i64 t.2.2.2] := (box_put4 (XH.out.other (fun c => hxo c.symm))).later (below_box _ _)
    have j0 : ((((((W.setCell ⟨bx, 0, none⟩ (.slice (some ⟨b, off, none⟩) l.length 0)).setCell ⟨o, 0, none⟩ (.int .i64 t.1)).setCell ⟨o, 1, none⟩ (.int .i64 t.2.1)).setCell ⟨o, 2, none⟩ (.string t.2.2.1)).setCell ⟨o, 3, none⟩ (.int .i64 t.2.2.2)).alloc (.cells #[.int .i64 t.1, .int .i64 t.2.1, .string t.2.2.1, .int .i64 t.2.2.2] 61)).cell? ⟨o, 0, none⟩ = some (.int .i64 t.1) := XF.cell 0
    have j1 : ((((((W.setCell ⟨bx, 0, none⟩ (.slice (some ⟨b, off, none⟩) l.length 0)).setCell ⟨o, 0, none⟩ (.int .i64 t.1)).setCell ⟨o, 1, none⟩ (.int .i64 t.2.1)).setCell ⟨o, 2, none⟩ (.string t.2.2.1)).setCell ⟨o, 3, none⟩ (.int .i64 t.2.2.2)).alloc (.cells #[.int .i64 t.1, .int .i64 t.2.1, .string t.2.2.1, .int .i64 t.2.2.2] 61)).cell? ⟨o, 1, none⟩ = some (.int .i64 t.2.1) := XF.cell 1
    have j2 : ((((((W.setCell ⟨bx, 0, none⟩ (.slice (some ⟨b, off, none⟩) l.length 0)).setCell ⟨o, 0, none⟩ (.int .i64 t.1)).setCell ⟨o, 1, none⟩ (.int .i64 t.2.1)).setCell ⟨o, 2, none⟩ (.string t.2.2.1)).setCell ⟨o, 3, none⟩ (.int .i64 t.2.2.2)).alloc (.cells #[.int .i64 t.1, .int .i64 t.2.1, .string t.2.2.1, .int .i64 t.2.2.2] 61)).cell? ⟨o, 2, none⟩ = some (.string t.2.2.1) := XF.cell 2
    have j3 : ((((((W.setCell ⟨bx, 0, none⟩ (.slice (some ⟨b, off, none⟩) l.length 0)).setCell ⟨o, 0, none⟩ (.int .i64 t.1)).setCell ⟨o, 1, none⟩ (.int .i64 t.2.1)).setCell ⟨o, 2, none⟩ (.string t.2.2.1)).setCell ⟨o, 3, none⟩ (.int .i64 t.2.2.2)).alloc (.cells #[.int .i64 t.1, .int .i64 t.2.1, .string t.2.2.1, .int .i64 t.2.2.2] 61)).cell? ⟨o, 3, none⟩ = some (.int .i64 t.2.2.2) := XF.cell 3
    refine bodyPost_ret (v := tokV t) (by simp [results, Tryz.results23, go_sem, j0, j1, j2, j3]) rfl ⟨rfl, ?_, ?_⟩
    · refine DQ.later ?_ (below_box _ _)
      repeat (refine DQ.other ?_ hob _)
      exact HD.out.took (LeftQ.tail0 (by have := hc; simp at this; omega))
    · refine Beside.trans ?_ (Beside.of_below (below_box _ _))
      repeat (refine Beside.setNew ?_ hoo _)
      exact BE.out.setCell (p := ⟨bx, 0, none⟩) rfl _
  · have XF : BoxW ((((((W.setCell ⟨bx, 0, none⟩ (.slice (some ⟨b, off + 4, none⟩) l.length (c - 1))).setCell ⟨o, 0, none⟩ (.int .i64 t.1)).setCell ⟨o, 1, none⟩ (.int .i64 t.2.1)).setCell ⟨o, 2, none⟩ (.string t.2.2.1)).setCell ⟨o, 3, none⟩ (.int .i64 t.2.2.2)).alloc (.cells #[.int .i64 t.1, .int .i64 t.2.1, .string t.2.2.1, .int .i64 t.2.2.2] 61)) o 61 #[.int .i64 t.1, .int .i64 t.2.1, .string t.2.2.1, .int .i64 t.2.2.2] := (box_put4 (XH.out.other (fun c => hxo c.symm))).later (below_box _ _)
    have j0 : ((((((W.setCell ⟨bx, 0, none⟩ (.slice (some ⟨b, off + 4, none⟩) l.length (c - 1))).setCell ⟨o, 0, none⟩ (.int .i64 t.1)).setCell ⟨o, 1, none⟩ (.int .i64 t.2.1)).setCell ⟨o, 2, none⟩ (.string t.2.2.1)).setCell ⟨o, 3, none⟩ (.int .i64 t.2.2.2)).alloc (.cells #[.int .i64 t.1, .int .i64 t.2.1, .string t.2.2.1, .int .i64 t.2.2.2] 61)).cell? ⟨o, 0, none⟩ = some (.int .i64 t.1) := XF.cell 0
    have j1 : ((((((W.setCell ⟨bx, 0, none⟩ (.slice (some ⟨b, off + 4, none⟩) l.length (c - 1))).setCell ⟨o, 0, none⟩ (.int .i64 t.1)).setCell ⟨o, 1, none⟩ (.int .i64 t.2.1)).setCell ⟨o, 2, none⟩ (.string t.2.2.1)).setCell ⟨o, 3, none⟩ (.int .i64 t.2.2.2)).alloc (.cells #[.int .i64 t.1, .int .i64 t.2.1, .string t.2.2.1, .int .i64 t.2.2.2] 61)).cell? ⟨o, 1, none⟩ = some (.int .i64 t.2.1) := XF.cell 1
    have j2 : ((((((W.setCell ⟨bx, 0, none⟩ (.slice (some ⟨b, off + 4, none⟩) l.length (c - 1))).setCell ⟨o, 0, none⟩ (.int .i64 t.1)).setCell ⟨o, 1, none⟩ (.int .i64 t.2.1)).setCell ⟨o, 2, none⟩ (.string t.2.2.1)).setCell ⟨o, 3, none⟩ (.int .i64 t.2.2.2)).alloc (.cells #[.int .i64 t.1, .int .i64 t.2.1, .string t.2.2.1, .int .i64 t.2.2.2] 61)).cell? ⟨o, 2, none⟩ = some (.string t.2.2.1) := XF.cell 2
    have j3 : ((((((W.setCell ⟨bx, 0, none⟩ (.slice (some ⟨b, off + 4, none⟩) l.length (c - 1))).setCell ⟨o, 0, none⟩ (.int .i64 t.1)).setCell ⟨o, 1, none⟩ (.int .i64 t.2.1)).setCell ⟨o, 2, none⟩ (.string t.2.2.1)).setCell ⟨o, 3, none⟩ (.int .i64 t.2.2.2)).alloc (.cells #[.int .i64 t.1, .int .i64 t.2.1, .string t.2.2.1, .int .i64 t.2.2.2] 61)).cell? ⟨o, 3, none⟩ = some (.int .i64 t.2.2.2) := XF.cell 3
    refine bodyPost_ret (v := tokV t) (by simp [results, Tryz.results23, go_sem, j0, j1, j2, j3]) rfl ⟨rfl, ?_, ?_⟩
    · refine DQ.later ?_ (below_box _ _)
      repeat (refine DQ.other ?_ hob _)
      exact HD.out.took (HLE.out.tail1)
    · refine Beside.trans ?_ (Beside.of_below (below_box _ _))
      repeat (refine Beside.setNew ?_ hoo _)
      exact BE.out.setCell (p := ⟨bx, 0, none⟩) rfl _
theorem dtake_is (bx : Nat) (k : Int) (x : ByteArray) (r : Qr) (w : World) (h : DQ bx r w) :
    Calls Tryz.prog 23 #[.pointer (some ⟨bx, 0, none⟩), .int .i64 k, .string x] w fun e w' => DT bx w tokV (rqTake r k x) e w' := by
  cases hn : rqIs r k x with
  | false => rw [rqTake_no hn]; exact dtake_no bx k x r w h hn
  | true =>
    obtain ⟨l, b⟩ := r
    cases b with
    | true => cases hn
    | false =>
      cases l with
      | nil => cases hn
      | cons t l => rw [rqTake_yes hn]; exact dtake_yes bx k x t l w h hn
set_option maxHeartbeats 2000000 in
theorem dword_is (bx : Nat) (x : ByteArray) (r : Qr) (w : World) (h : DQ bx r w) :
    Calls Tryz.prog 24 #[.pointer (some ⟨bx, 0, none⟩), .string x] w fun e w' => DT bx w (fun _ => .tuple #[]) (rqText r 1 x) e w' := by
  have K := hid (dtake_is bx 1 x r w h)
  clear h
  go_enter Tryz.func24, Tryz.ntmps24
  go_wp2_with fail
  go_at_call 23
  refine K.out.mono ?_
  rintro e w2 ⟨rfl, p, b⟩
  go_wp2_with fail
  exact bodyPost_end (results_none rfl _ _ _) rfl ⟨rfl, p, b⟩
set_option maxHeartbeats 2000000 in
theorem dnum_is (bx : Nat) (r : Qr) (w : World) (h : DQ bx r w) :
    Calls Tryz.prog 25 #[.pointer (some ⟨bx, 0, none⟩)] w fun e w' => DT bx w (fun x => .int .i64 x) (rqNum r) e w' := by
  have K := hid (dtake_is bx 2 ⟨#[]⟩ r w h)
  clear h
  unfold rqNum
  generalize rqTake r 2 ⟨#[]⟩ = z at K
  obtain ⟨⟨t0, t1, t2, t3⟩, r2⟩ := z
  have tf := tokf3 t0 t1 t2 t3
  go_enter Tryz.func25, Tryz.ntmps25
  go_wp2_with fail
  go_at_call 23
  refine K.out.mono ?_
  rintro e w2 ⟨rfl, p, b⟩
  have P := hid p
  have B := hid b
  clear p b
  go_wp2_with fail
  go_ret
  exact ⟨rfl, P.out, B.out⟩
set_option maxHeartbeats 4000000 in
set_option maxRecDepth 100000 in
theorem dkey_is (bx : Nat) (r : Qr) (w : World) (h : DQ bx r w) :
    Calls Tryz.prog 74 #[.pointer (some ⟨bx, 0, none⟩)] w fun e w' => DT bx w (fun x => .string x) (rqKey r) e w' := by
  have K := hid (dtake_is bx 3 ⟨#[40]⟩ r w h)
  clear h
  have HK : Hid (rqKey r = if rqIs (rqTake r 3 ⟨#[40]⟩).2 1 ⟨#[]⟩ then ((rqTake (rqTake r 3 ⟨#[40]⟩).2 1 ⟨#[]⟩).1.2.2.1, (rqTake (rqTake (rqTake r 3 ⟨#[40]⟩).2 1 ⟨#[]⟩).2 3 ⟨#[41]⟩).2) else (⟨#[]⟩, (rqTake (rqTake r 3 ⟨#[40]⟩).2 3 ⟨#[41]⟩).2)) := rfl
  generalize rqTake r 3 ⟨#[40]⟩ = z at K HK
  obtain ⟨z0, r2⟩ := z
  dsimp only at HK
  go_enter Tryz.func74, Tryz.ntmps74
  go_wp2_with fail
  go_at_call 23
  refine K.out.mono ?_
  rintro e w2 ⟨rfl, p, b⟩
  have S := hid (dis_is bx 1 ⟨#[]⟩ r2 w2 p)
  have P := hid p
  have B := hid b
  clear p b K
  cases hs : rqIs r2 1 ⟨#[]⟩ with
  | true =>
    rw [hs] at S HK
    have K2 := hid (dtake_is bx 1 ⟨#[]⟩ r2 w2 P.out)
    have HK1 : Hid (rqKey r = ((rqTake r2 1 ⟨#[]⟩).1.2.2.1, (rqTake (rqTake r2 1 ⟨#[]⟩).2 3 ⟨#[41]⟩).2)) := by show _ = _; rw [HK.out]; exact if_pos rfl
    clear HK hs
    generalize rqTake r2 1 ⟨#[]⟩ = y at K2 HK1
    obtain ⟨⟨t0, t1, t2, t3⟩, r3⟩ := y
    dsimp only at HK1
    have tf := tokf2 t0 t1 t2 t3
    go_wp2_with (go_at_call 22; refine S.out.mono ?_; rintro e w3 ⟨rfl, rfl⟩)
    go_at_call 23
    refine K2.out.mono ?_
    rintro e w3 ⟨rfl, p, b⟩
    have K3 := hid (dtake_is bx 3 ⟨#[41]⟩ r3 w3 p)
    have B3 := hid (B.out.trans b)
    clear p b K2 P
    go_wp2_with fail
    go_at_call 23
    refine K3.out.mono ?_
    rintro e w4 ⟨rfl, p, b⟩
    have P4 := hid p
    have B4 := hid (B3.out.trans b)
    clear p b
    go_wp2_with fail
    go_ret
    rw [HK1.out]
    exact ⟨rfl, P4.out, B4.out⟩
  | false =>
    rw [hs] at S HK
    have K2 := hid (dtake_is bx 3 ⟨#[41]⟩ r2 w2 P.out)
    have HK1 : Hid (rqKey r = (⟨#[]⟩, (rqTake r2 3 ⟨#[41]⟩).2)) := by show _ = _; rw [HK.out]; exact if_neg (by simp)
    clear HK hs
    go_wp2_with (go_at_call 22; refine S.out.mono ?_; rintro e w3 ⟨rfl, rfl⟩)
    go_at_call 23
    refine K2.out.mono ?_
    rintro e w3 ⟨rfl, p, b⟩
    have P4 := hid p
    have B4 := hid (B.out.trans b)
    clear p b
    go_wp2_with fail
    go_ret
    rw [HK1.out]
    exact ⟨rfl, P4.out, B4.out⟩
theorem rqOne_drop {ws : List ByteArray} {r : Qr} {k : Nat} (hk : k < ws.length) : rqOne (ws.drop k) k r = if rqIs r 1 (ws.getD k default) then ((k : Int), (rqTake r 1 (ws.getD k default)).2) else rqOne (ws.drop (k + 1)) (k + 1) r := by
  rw [List.drop_eq_getElem_cons hk]
  have : ws.getD k default = ws[k] := by simp [List.getD, hk]
  rw [this]
  rfl
set_option maxHeartbeats 4000000 in
set_option maxRecDepth 100000 in
theorem done_is (bx g c : Nat) (ws : List ByteArray) (r : Qr) (w : World) (h : DQ bx r w) (hw : WordsAt w g ws) (hn : ws.length ≤ 100) :
    Calls Tryz.prog 27 #[.pointer (some ⟨bx, 0, none⟩), .slice (some ⟨g, 0, none⟩) ws.length c] w fun e w' => DT bx w (fun x => .int .i64 x) (rqOne ws 0 r) e w' := by
  have H := hid h
  have HW := hid hw
  have hni : (ws.length : Int) ≤ 100 := by omega
  have H0 : Hid (rqOne ws 0 r = rqOne (ws.drop 0) 0 r) := by show _ = _; rw [List.drop_zero]
  clear h hw hn
  go_enter Tryz.func27, Tryz.ntmps27
  go_wp2_with fail
  go_loopg [5, 6, 9] ws.length (fun gg _ _ kv wr => ∃ k : Nat, k ≤ ws.length ∧ ws.length - k ≤ gg ∧ kv = .int .i64 k ∧ Aside (rqOne ws 0 r = rqOne (ws.drop k) k r ∧ wr = w))
  case atStart => exact ⟨0, Nat.zero_le _, by omega, rfl, H0.out, rfl⟩
  case round =>
    clear H0
    obtain ⟨k, hk, hg, rfl, HX⟩ := hrel
    obtain ⟨HI0, rfl⟩ := HX.out
    have HI := hid HI0
    clear HI0 HX
    by_cases hlt : k < ws.length
    · have hlti : (k : Int) < (ws.length : Int) := by omega
      have hk0 : (0 : Int) ≤ (k : Int) := by omega
      have ck := HW.out.cell hlt
      have st := rqOne_drop (r := r) hlt
      generalize ws.getD k default = y at ck st
      have S := hid (dis_is bx 1 y r wr H.out)
      cases hs : rqIs r 1 y with
      | true =>
        rw [hs] at S
        rw [hs, if_pos rfl] at st
        have ST := hid (HI.out.trans st)
        have K := hid (dword_is bx y r wr H.out)
        clear st hs
        go_wp2_with (go_at_call 22; refine S.out.mono ?_; rintro e w3 ⟨rfl, rfl⟩)
        go_at_call 24
        refine K.out.mono ?_
        rintro e w3 ⟨rfl, p, b⟩
        have P4 := hid p
        have B4 := hid b
        clear p b ck
        go_wp2_with fail
        go_ret
        rw [ST.out]
        exact ⟨rfl, P4.out, B4.out⟩
      | false =>
        rw [hs] at S
        rw [hs, if_neg (by simp)] at st
        have ST := hid (HI.out.trans st)
        clear st hs
        go_wp2_with (go_at_call 22; refine S.out.mono ?_; rintro e w3 ⟨rfl, rfl⟩)
        go_roundg (ws.length - (k + 1))
        case measure => omega
        case rel => exact ⟨k + 1, by omega, by omega, by go_num, ST.out, rfl⟩
    · have hlti : ¬ (k : Int) < (ws.length : Int) := by omega
      have ST : Hid (rqOne ws 0 r = (0, (r.1, true))) := by
        show _ = _
        rw [HI.out, List.drop_eq_nil_of_le (by omega)]
        rfl
      have cb := H.out.bad
      have zb := H.out.z1
      go_wp2_with fail
      go_ret
      rw [ST.out]
      exact ⟨rfl, H.out.fail, (Beside.refl bx wr).setCell (p := ⟨bx, 1, none⟩) rfl _⟩
end Go.Proofs.YtkpomcimaofkkaaGreatDoor.Rp
namespace Go.Proofs.YtkpomcimaofkkaaGreatDoor.Rp
set_option linter.unusedVariables false
set_option linter.unusedSimpArgs false
open Go.RowKit Go.Lib

theorem rqTake_le (r : Qr) (k : Int) (x : ByteArray) : (rqTake r k x).2.1.length ≤ r.1.length := by
  cases h : rqIs r k x with
  | false => rw [rqTake_no h]; exact Nat.le_refl _
  | true =>
    obtain ⟨l, b⟩ := r
    cases b with
    | true => cases h
    | false => rw [rqTake_yes h]; simp
theorem rqTake_lt {r : Qr} {k : Int} {x : ByteArray} (h : rqIs r k x = true) : (rqTake r k x).2.1.length < r.1.length := by
  obtain ⟨l, b⟩ := r
  cases b with
  | true => cases h
  | false =>
    cases l with
    | nil => cases h
    | cons t l => rw [rqTake_yes h]; simp
theorem rqNum_le (r : Qr) : (rqNum r).2.1.length ≤ r.1.length := rqTake_le r 2 ⟨#[]⟩
theorem rqOne_le : ∀ (ws : List ByteArray) (k : Nat) (r : Qr), (rqOne ws k r).2.1.length ≤ r.1.length
  | [], k, r => Nat.le_refl _
  | x :: xs, k, r => by
    unfold rqOne
    split
    · exact rqTake_le r 1 x
    · exact rqOne_le xs (k + 1) r
theorem rqKey_le (r : Qr) : (rqKey r).2.1.length ≤ r.1.length := by
  have h1 := rqTake_le r 3 mOpen
  unfold rqKey
  dsimp only
  split
  · exact Nat.le_trans (rqTake_le _ _ _) (Nat.le_trans (rqTake_le _ _ _) h1)
  · exact Nat.le_trans (rqTake_le _ _ _) h1
theorem rqEither_le (y n : ByteArray) (r : Qr) : (rqEither y n r).2.1.length ≤ r.1.length := rqOne_le _ _ _
theorem rqLabel_le (r : Qr) : (rqLabel r).2.1.length ≤ r.1.length := rqOne_le _ _ _
theorem rqDep_lt {r : Qr} (h : rqIs r 3 mFrom = true) : (rqDep r).2.1.length < r.1.length := by
  refine Nat.lt_of_le_of_lt ?_ (rqTake_lt h)
  show (rqTake _ 3 mTo).2.1.length ≤ _
  refine Nat.le_trans (rqTake_le _ _ _) (Nat.le_trans (rqEither_le _ _ _) (Nat.le_trans (rqEither_le _ _ _) (Nat.le_trans (rqNum_le _) (Nat.le_trans (rqNum_le _) (Nat.le_trans (rqKey_le _) (Nat.le_trans (rqNum_le _) (Nat.le_trans (rqLabel_le _) (rqNum_le _))))))))
theorem rqDeps_cnt : ∀ (f : Nat) (r : Qr) (acc : List MW), (rqDeps f r acc).1.length + (rqDeps f r acc).2.1.length ≤ acc.length + r.1.length
  | 0, r, acc => Nat.le_refl _
  | f + 1, r, acc => by
    unfold rqDeps
    split
    · rename_i h
      have h1 := rqDeps_cnt f (rqDep r).2 (acc ++ [(rqDep r).1])
      have h2 := rqDep_lt h
      simp at h1
      omega
    · exact Nat.le_refl _
theorem lines_one {t : MTok} {l : List MTok} (h : t.1 = 4) : qLines (t :: l) = qLines l := if_pos h
theorem lines_not {l : List MTok} (h : rqIs (l, false) 4 ⟨#[]⟩ = false) : qLines l = l := by
  cases l with
  | nil => rfl
  | cons t l =>
    rw [is_any] at h
    exact if_neg (by simpa using h)
theorem rqLines_step {r : Qr} (h : rqIs r 4 ⟨#[]⟩ = true) : rqLines (rqTake r 4 ⟨#[]⟩).2 = rqLines r := by
  obtain ⟨l, b⟩ := r
  cases b with
  | true => cases h
  | false =>
    cases l with
    | nil => cases h
    | cons t l =>
      rw [rqTake_yes h]
      rw [is_any] at h
      have ht : t.1 = 4 := by simpa using h
      show (qLines l, false) = (qLines (t :: l), false)
      rw [lines_one ht]
theorem rqLines_end {r : Qr} (h : rqIs r 4 ⟨#[]⟩ = false) : rqLines r = r := by
  obtain ⟨l, b⟩ := r
  cases b with
  | true => rfl
  | false => show (qLines l, false) = (l, false); rw [lines_not h]
theorem rqLines_le (r : Qr) : (rqLines r).1.length ≤ r.1.length := by
  unfold rqLines
  split
  · exact Nat.le_refl _
  · exact lines_le r.1
set_option maxHeartbeats 4000000 in
set_option maxRecDepth 100000 in
theorem dline_is (bx : Nat) (r : Qr) (w : World) (h : DQ bx r w) :
    Calls Tryz.prog 26 #[.pointer (some ⟨bx, 0, none⟩)] w fun e w' => DT bx w (fun _ => .tuple #[]) (rqLine r) e w' := by
  have H := hid h
  obtain ⟨v, c0, ao, c, rfl, hc, hj⟩ := h.left
  have K := hid (dtake_is bx 4 ⟨#[]⟩ r w h)
  have HE : Hid (rqLine r = ((), rqLines (if r.1 = [] then r else (rqTake r 4 ⟨#[]⟩).2))) := rfl
  have go : ∀ (r1 : Qr) (w1 : World), DQ bx r1 w1 → Beside bx w w1 → rqLine r = ((), rqLines r1) → True := fun _ _ _ _ _ => trivial
  clear h hc hj go
  cases hl : r.1 with
  | nil =>
    rw [hl] at c0 HE
    have c0' : w.cell? ⟨bx, 0, none⟩ = some (.slice ao 0 c) := c0
    rw [if_pos rfl] at HE
    clear c0 K hl
    have hz : ¬ (0 : Int) < ((0 : Nat) : Int) := by omega
    go_enter Tryz.func26, Tryz.ntmps26
    go_wp2_with fail
    go_loopg [] r.1.length (fun gg wr => ∃ r1 : Qr, r1.1.length ≤ gg ∧ Aside (DQ bx r1 wr ∧ Beside bx w wr ∧ rqLine r = ((), rqLines r1)))
    case atStart => exact ⟨r, Nat.le_refl _, H.out, Beside.refl _ _, HE.out⟩
    case round =>
      clear H HE c0'
      obtain ⟨r1, hg, HX⟩ := hrel
      have S := hid (dis_is bx 4 ⟨#[]⟩ r1 wr HX.out.1)
      cases hs : rqIs r1 4 ⟨#[]⟩ with
      | true =>
        rw [hs] at S
        have K := hid (dtake_is bx 4 ⟨#[]⟩ r1 wr HX.out.1)
        have hlt := rqTake_lt hs
        have hst := hid (rqLines_step hs)
        clear hs
        go_wp2_with (go_at_call 22; refine S.out.mono ?_; rintro e w3 ⟨rfl, rfl⟩)
        go_at_call 23
        refine K.out.mono ?_
        rintro e w3 ⟨rfl, p, b⟩
        have P := hid p
        have B := hid b
        clear p b K
        go_wp2_with fail
        go_roundg (rqTake r1 4 ⟨#[]⟩).2.1.length
        case measure => omega
        case rel => exact ⟨_, Nat.le_refl _, P.out, HX.out.2.1.trans B.out, by rw [hst.out]; exact HX.out.2.2⟩
      | false =>
        rw [hs] at S
        have hst := hid (rqLines_end hs)
        clear hs
        go_wp2_with (go_at_call 22; refine S.out.mono ?_; rintro e w3 ⟨rfl, rfl⟩)
        refine bodyPost_end (results_none rfl _ _ _) rfl ?_
        rw [HX.out.2.2, hst.out]
        exact ⟨rfl, HX.out.1, HX.out.2.1⟩
  | cons t l =>
    rw [hl] at c0 HE
    have c0' : w.cell? ⟨bx, 0, none⟩ = some (.slice ao (l.length + 1) c) := c0
    rw [if_neg (by simp)] at HE
    clear c0 hl H
    have hz : (0 : Int) < (l.length : Int) + 1 := by omega
    go_enter Tryz.func26, Tryz.ntmps26
    go_wp2_with fail
    go_at_call 23
    refine K.out.mono ?_
    rintro e w3 ⟨rfl, p, b⟩
    have P := hid p
    have B := hid b
    clear p b K c0'
    generalize (rqTake r 4 ⟨#[]⟩).2 = r0 at P HE
    go_wp2_with fail
    go_loopg [] r0.1.length (fun gg wr => ∃ r1 : Qr, r1.1.length ≤ gg ∧ Aside (DQ bx r1 wr ∧ Beside bx w wr ∧ rqLine r = ((), rqLines r1)))
    case atStart => exact ⟨r0, Nat.le_refl _, P.out, B.out, HE.out⟩
    case round =>
      clear P HE B
      obtain ⟨r1, hg, HX⟩ := hrel
      have S := hid (dis_is bx 4 ⟨#[]⟩ r1 wr HX.out.1)
      cases hs : rqIs r1 4 ⟨#[]⟩ with
      | true =>
        rw [hs] at S
        have K := hid (dtake_is bx 4 ⟨#[]⟩ r1 wr HX.out.1)
        have hlt := rqTake_lt hs
        have hst := hid (rqLines_step hs)
        clear hs
        go_wp2_with (go_at_call 22; refine S.out.mono ?_; rintro e w3 ⟨rfl, rfl⟩)
        go_at_call 23
        refine K.out.mono ?_
        rintro e w3 ⟨rfl, p, b⟩
        have P := hid p
        have B := hid b
        clear p b K
        go_wp2_with fail
        go_roundg (rqTake r1 4 ⟨#[]⟩).2.1.length
        case measure => omega
        case rel => exact ⟨_, Nat.le_refl _, P.out, HX.out.2.1.trans B.out, by rw [hst.out]; exact HX.out.2.2⟩
      | false =>
        rw [hs] at S
        have hst := hid (rqLines_end hs)
        clear hs
        go_wp2_with (go_at_call 22; refine S.out.mono ?_; rintro e w3 ⟨rfl, rfl⟩)
        refine bodyPost_end (results_none rfl _ _ _) rfl ?_
        rw [HX.out.2.2, hst.out]
        exact ⟨rfl, HX.out.1, HX.out.2.1⟩
set_option maxHeartbeats 4000000 in
set_option maxRecDepth 100000 in
theorem dlevel_is (bx : Nat) (r : Qr) (w : World) (h : DQ bx r w) :
    Calls Tryz.prog 29 #[.pointer (some ⟨bx, 0, none⟩)] w fun e w' => DT bx w (fun x => .int .i64 x) (rqOne levelWs 0 r) e w' := by
  have hb := below_box w (.cells (levelWs.map Value.string).toArray 9)
  have O := hid (done_is bx w.heap.size 6 levelWs r _ (h.later hb) (words_is w levelWs) (by decide))
  have HB := hid hb
  clear h hb
  go_enter Tryz.func29, Tryz.ntmps29
  go_wp2_with fail
  go_at_call 27
  refine O.out.mono ?_
  rintro e w2 ⟨rfl, p, b⟩
  have P := hid p
  have B := hid ((Beside.of_below HB.out).trans b)
  clear p b O
  go_wp2_with fail
  go_ret
  exact ⟨rfl, P.out, B.out⟩
set_option maxHeartbeats 2000000 in
theorem dkinds_is (w : World) : Calls Tryz.prog 73 #[] w fun e w' => e = .returned (.slice (some ⟨w.heap.size, 0, none⟩) 11 11) ∧ w.alloc (.cells (rkindWs.map Value.string).toArray 9) = w' := by
  go_enter Tryz.func73, Tryz.ntmps73
  go_wp2_with fail
  go_ret
  exact ⟨rfl, rfl⟩
/-- One of four words stands at a place below four. -/
theorem rqOne_lt : ∀ (ws : List ByteArray) (k : Nat) (r : Qr), ∃ j : Nat, (rqOne ws k r).1 = (j : Int) ∧ (j < k + ws.length ∨ j = 0)
  | [], k, r => ⟨0, rfl, .inr rfl⟩
  | x :: xs, k, r => by
    unfold rqOne
    split
    · exact ⟨k, rfl, .inl (by simp)⟩
    · obtain ⟨j, h1, h2⟩ := rqOne_lt xs (k + 1) r
      exact ⟨j, h1, h2.imp (fun h => by simp; omega) id⟩
end Go.Proofs.YtkpomcimaofkkaaGreatDoor.Rp
