/-
  The code's reader of a report's text: a key; words in memory, one of them by its place; a level.
  The code's reader of a report's text: one of some words; a level; boxes whole, and lists that grow beside the reader's box.
  The code's reader of a report's text: a level; boxes whole, and lists that grow beside the reader's box.
-/
import Derived.Test.YtkpomcimaofkkaaGreatDoorU5
namespace Go.Proofs.YtkpomcimaofkkaaGreatDoor.Rp
set_option linter.unusedVariables false
set_option linter.unusedSimpArgs false
open Go.RowKit Go.Lib

set_option maxHeartbeats 4000000 in
set_option maxRecDepth 100000 in
theorem ckey_is (bx : Nat) (T : List MTok) (w : World) (h : PQ bx T w) :
    Calls Tryz.prog 96 #[.pointer (some ⟨bx, 0, none⟩)] w fun e w' => ToldQ bx w (fun x => .string x) (qKey T) e w' := by
  have K := hid (ctext_is bx mOpen T w h)
  have e40 : mOpen = ⟨#[40]⟩ := rfl
  have e41 : mClose = ⟨#[41]⟩ := rfl
  rw [e40] at K
  clear h
  go_enter Tryz.func96, Tryz.ntmps96
  go_wp2_with fail
  go_at_call 58
  refine K.out.mono ?_
  rintro e w2 h2
  cases hp : qText ⟨#[40]⟩ T with
  | none =>
    rw [hp] at h2
    obtain ⟨rfl, b2⟩ := h2
    exact ⟨rfl, toldQ_none (andQ_none (by rw [e40]; exact hp)) rfl b2⟩
  | some z =>
    obtain ⟨_, L⟩ := z
    rw [hp] at h2
    obtain ⟨p2, rfl, b2⟩ := h2
    have HK : Hid (qKey T = if qSees L mClose then andQ (qText mClose L) fun _ r => some (⟨#[]⟩, r) else andQ (qTake 1 L) fun t r => andQ (qText mClose r) fun _ r => some (t.2.2.1, r)) := by
      show _ = _
      unfold qKey
      rw [e40, andQ_some hp]
    have S := hid (csees_is bx ⟨#[41]⟩ L w2 p2)
    have P2 := hid p2
    have B2 := hid b2
    clear p2 b2 K hp
    rw [e41] at HK
    cases hs : qSees L ⟨#[41]⟩ with
    | true =>
      rw [hs] at S
      have hy : qText ⟨#[41]⟩ L = some ((), L.tail) := by unfold qText; rw [hs]; rfl
      have TX := hid (ctext_is bx ⟨#[41]⟩ L w2 P2.out)
      rw [hy] at TX
      have HK2 : Hid (qKey T = some (⟨#[]⟩, L.tail)) := by show _ = _; rw [HK.out, hs, if_pos rfl, andQ_some hy]
      clear hs hy HK
      go_wp2_with (go_at_call 62; refine S.out.mono ?_; rintro e w3 ⟨rfl, rfl⟩)
      go_at_call 58
      refine TX.out.mono ?_
      rintro e w3 ⟨p3, rfl, b3⟩
      have P3 := hid p3
      have B3 := hid (B2.out.trans b3)
      clear p3 b3
      go_wp2_with fail
      go_ret
      exact toldQ_some HK2.out P3.out rfl B3.out
    | false =>
      rw [hs] at S
      have KT := hid (ctake_is bx 1 L w2 P2.out)
      have HK2 : Hid (qKey T = andQ (qTake 1 L) fun t r => andQ (qText ⟨#[41]⟩ r) fun _ r => some (t.2.2.1, r)) := by show _ = _; rw [HK.out, hs, if_neg (by simp)]
      clear hs HK
      go_wp2_with (go_at_call 62; refine S.out.mono ?_; rintro e w3 ⟨rfl, rfl⟩)
      go_at_call 95
      refine KT.out.mono ?_
      rintro e w3 h3
      cases hp3 : qTake 1 L with
      | none =>
        rw [hp3] at h3
        obtain ⟨rfl, b3⟩ := h3
        exact ⟨rfl, toldQ_none (HK2.out.trans (andQ_none hp3)) rfl (B2.out.trans b3)⟩
      | some z =>
        obtain ⟨⟨t0, t1, t2, t3⟩, R⟩ := z
        rw [hp3] at h3
        obtain ⟨p3, rfl, b3⟩ := h3
        have HK3 := hid (HK2.out.trans (andQ_some hp3))
        have tf := tokf2 t0 t1 t2 t3
        have TX := hid (ctext_is bx ⟨#[41]⟩ R w3 p3)
        have B3 := hid (B2.out.trans b3)
        clear p3 b3 hp3 HK2
        go_wp2_with fail
        go_at_call 58
        refine TX.out.mono ?_
        rintro e w4 h4
        cases hp4 : qText ⟨#[41]⟩ R with
        | none =>
          rw [hp4] at h4
          obtain ⟨rfl, b4⟩ := h4
          exact ⟨rfl, toldQ_none (HK3.out.trans (andQ_none hp4)) rfl (B3.out.trans b4)⟩
        | some z =>
          rw [hp4] at h4
          obtain ⟨p4, rfl, b4⟩ := h4
          have HK4 := hid (HK3.out.trans (andQ_some hp4))
          have P4 := hid p4
          have B4 := hid (B3.out.trans b4)
          clear p4 b4 hp4
          go_wp2_with fail
          go_ret
          exact toldQ_some HK4.out P4.out rfl B4.out
/-- Words in a block. -/
def WordsAt (w : World) (g : Nat) (ws : List ByteArray) : Prop := w.heap[g]? = some (.cells (ws.map Value.string).toArray 9)
theorem WordsAt.cell {w : World} {g : Nat} {ws : List ByteArray} (h : WordsAt w g ws) {k : Nat} (hk : k < ws.length) : w.cell? ⟨g, k, none⟩ = some (.string (ws.getD k default)) := by
  rw [Lib.cell_of_heap h k]
  simp [List.getD, hk]
theorem WordsAt.lt {w : World} {g : Nat} {ws : List ByteArray} (h : WordsAt w g ws) : g < w.heap.size := (Array.getElem?_eq_some_iff.1 h).1
theorem WordsAt.beside {bx : Nat} {w w' : World} {g : Nat} {ws : List ByteArray} (h : WordsAt w g ws) (hb : Beside bx w w') (hn : g ≠ bx) : WordsAt w' g ws := (hb.block g h.lt hn).trans h
theorem words_is (w : World) (ws : List ByteArray) : WordsAt (w.alloc (.cells (ws.map Value.string).toArray 9)) w.heap.size ws := heap_alloc_new w _
set_option maxHeartbeats 2000000 in
theorem kinds_is (w : World) : Calls Tryz.prog 80 #[] w fun e w' => e = .returned (.slice (some ⟨w.heap.size, 0, none⟩) 12 12) ∧ w.alloc (.cells (kindWs.map Value.string).toArray 9) = w' := by
  go_enter Tryz.func80, Tryz.ntmps80
  go_wp2_with fail
  go_ret
  exact ⟨rfl, rfl⟩
set_option maxHeartbeats 2000000 in
theorem labels_is (w : World) : Calls Tryz.prog 82 #[] w fun e w' => e = .returned (.slice (some ⟨w.heap.size, 0, none⟩) 9 9) ∧ w.alloc (.cells (labelWs.map Value.string).toArray 9) = w' := by
  go_enter Tryz.func82, Tryz.ntmps82
  go_wp2_with fail
  go_ret
  exact ⟨rfl, rfl⟩
set_option maxHeartbeats 2000000 in
theorem answers_is (w : World) : Calls Tryz.prog 66 #[] w fun e w' => e = .returned (.slice (some ⟨w.heap.size, 0, none⟩) 4 4) ∧ w.alloc (.cells (answerWs.map Value.string).toArray 9) = w' := by
  go_enter Tryz.func66, Tryz.ntmps66
  go_wp2_with fail
  go_ret
  exact ⟨rfl, rfl⟩
theorem idx_step {x : ByteArray} {ws : List ByteArray} {k : Nat} (hk : k < ws.length) : idxB x (ws.drop k) k = if x.toList == (ws.getD k default).toList then some k else idxB x (ws.drop (k + 1)) (k + 1) := by
  rw [List.drop_eq_getElem_cons hk]
  have : ws.getD k default = ws[k] := by simp [List.getD, hk]
  rw [this]
  rfl
/-- The place, or -1. -/
def idxI (x : ByteArray) (ws : List ByteArray) : Int := match idxB x ws 0 with
  | some n => (n : Int)
  | none => -1
set_option maxHeartbeats 2000000 in
set_option maxRecDepth 100000 in
theorem index_is (g c : Nat) (ws : List ByteArray) (x : ByteArray) (w : World) (h : WordsAt w g ws) (hn : ws.length ≤ 100) :
    Calls Tryz.prog 99 #[.slice (some ⟨g, 0, none⟩) ws.length c, .string x] w fun e w' => e = .returned (.int .i64 (idxI x ws)) ∧ w = w' := by
  have H := hid h
  have hni : (ws.length : Int) ≤ 100 := by omega
  have H0 : Hid (idxB x ws 0 = idxB x (ws.drop 0) 0) := by show _ = _; rw [List.drop_zero]
  clear h hn
  go_enter Tryz.func99, Tryz.ntmps99
  go_wp2_with fail
  go_loopg [5, 8] ws.length (fun g _ kv wr => ∃ k : Nat, k ≤ ws.length ∧ ws.length - k ≤ g ∧ kv = .int .i64 k ∧ Aside (idxB x ws 0 = idxB x (ws.drop k) k ∧ wr = w))
  case atStart => exact ⟨0, Nat.zero_le _, by omega, rfl, H0.out, rfl⟩
  case round =>
    obtain ⟨k, hk, hg, rfl, HX⟩ := hrel
    obtain ⟨HI0, rfl⟩ := HX.out
    have HI := hid HI0
    clear HI0 HX
    by_cases hlt : k < ws.length
    · have hlti : (k : Int) < (ws.length : Int) := by omega
      have ck := H.out.cell hlt
      have st := idx_step (x := x) hlt
      generalize ws.getD k default = y at ck st
      cases hy : x.toList == y.toList with
      | true =>
        rw [hy, if_pos rfl] at st
        have ST : Hid (idxI x ws = (k : Int)) := by show _ = _; unfold idxI; rw [HI.out, st]
        clear st
        go_wp2_with fail
        go_ret
        exact ⟨by rw [ST.out]; rfl, rfl⟩
      | false =>
        rw [hy, if_neg (by simp)] at st
        have ST := hid (HI.out.trans st)
        clear st
        go_wp2_with fail
        go_roundg (ws.length - (k + 1))
        case measure => omega
        case rel => exact ⟨k + 1, by omega, by omega, by go_num, ST.out, rfl⟩
    · have hlti : ¬ (k : Int) < (ws.length : Int) := by omega
      have ST : Hid (idxI x ws = -1) := by
        show _ = _
        unfold idxI
        rw [HI.out, List.drop_eq_nil_of_le (by omega)]
        rfl
      go_wp2_with fail
      go_ret
      exact ⟨by rw [ST.out]; rfl, rfl⟩
end Go.Proofs.YtkpomcimaofkkaaGreatDoor.Rp
namespace Go.Proofs.YtkpomcimaofkkaaGreatDoor.Rp
set_option linter.unusedVariables false
set_option linter.unusedSimpArgs false
open Go.RowKit Go.Lib

theorem qOne_none {ws : List ByteArray} {T : List MTok} (h : qTake 1 T = none) : qOne ws T = none := andQ_none h
theorem qOne_some {ws : List ByteArray} {T r : List MTok} {t : MTok} (h : qTake 1 T = some (t, r)) : qOne ws T = match idxB t.2.2.1 ws 0 with
    | some n => some ((n : Int), r)
    | none => none := andQ_some h
set_option maxHeartbeats 2000000 in
set_option maxRecDepth 100000 in
theorem coneOf_is (bx g c : Nat) (ws : List ByteArray) (T : List MTok) (w : World) (h : PQ bx T w) (hw : WordsAt w g ws) (hn : g ≠ bx) (hl : ws.length ≤ 100) :
    Calls Tryz.prog 65 #[.pointer (some ⟨bx, 0, none⟩), .slice (some ⟨g, 0, none⟩) ws.length c] w fun e w' => ToldQ bx w (fun n => .int .i64 n) (qOne ws T) e w' := by
  have K := hid (ctake_is bx 1 T w h)
  have HW := hid hw
  clear h hw
  go_enter Tryz.func65, Tryz.ntmps65
  go_wp2_with fail
  go_at_call 95
  refine K.out.mono ?_
  rintro e w2 h2
  cases hp : qTake 1 T with
  | none =>
    rw [hp] at h2
    obtain ⟨rfl, b2⟩ := h2
    exact ⟨rfl, toldQ_none (qOne_none hp) rfl b2⟩
  | some z =>
    obtain ⟨⟨t0, t1, t2, t3⟩, r⟩ := z
    rw [hp] at h2
    obtain ⟨p2, rfl, b2⟩ := h2
    have tf := tokf2 t0 t1 t2 t3
    have I := hid (index_is g c ws t2 w2 (HW.out.beside b2 hn) hl)
    have P2 := hid p2
    have B2 := hid b2
    have HP := hid (qOne_some (ws := ws) hp)
    clear p2 b2 hp HW K
    unfold idxI at I
    cases hi : idxB t2 ws 0 with
    | none =>
      rw [hi] at I
      have HP2 : Hid (qOne ws T = none) := by have := HP.out; simp only [hi] at this; exact this
      clear HP
      go_wp2_with (first | (go_at_call 99; refine I.out.mono ?_; rintro e w3 ⟨rfl, rfl⟩) | (go_at_call 20; refine (giveUp_is _).mono ?_; rintro e w3 ⟨rfl, rfl⟩))
      exact ⟨rfl, toldQ_none HP2.out rfl B2.out⟩
    | some n =>
      rw [hi] at I
      have HP2 : Hid (qOne ws T = some ((n : Int), r)) := by have := HP.out; simp only [hi] at this; exact this
      have hn0 : ¬ (n : Int) < 0 := by omega
      clear HP
      go_wp2_with (go_at_call 99; refine I.out.mono ?_; rintro e w3 ⟨rfl, rfl⟩)
      go_ret
      exact toldQ_some HP2.out P2.out rfl B2.out
/-- The package's names of levels. -/
def NamesAt (w : World) : Prop := ∀ k, k < 6 → w.cell? ⟨0, k, none⟩ = some (.string (levelWs.getD k default))
theorem NamesAt.pos {w : World} (h : NamesAt w) : 0 < w.heap.size := World.block_lt_of_cell? _ _ (h 0 (by decide))
theorem NamesAt.beside {bx : Nat} {w w' : World} (h : NamesAt w) (hb : Beside bx w w') (hn : 0 ≠ bx) : NamesAt w' := fun k hk => (hb.cell (p := ⟨0, k, none⟩) h.pos hn).trans (h k hk)
theorem NamesAt.later {w w' : World} (h : NamesAt w) (hb : Below w.heap.size w w') : NamesAt w' := fun k hk => (hb.cell (p := ⟨0, k, none⟩) h.pos).trans (h k hk)
theorem NamesAt.other {w : World} {g i : Nat} {u : Value} (h : NamesAt w) (hg : 0 ≠ g) : NamesAt (w.setCell ⟨g, i, none⟩ u) := fun k hk => (World.cell?_setCell_other _ _ _ _ (by intro c; exact hg (congrArg Addr.block c).symm)).trans (h k hk)
theorem names_ix (k : Nat) (hk : k < 6) (W : World) : (Instr.index 111 (.agg (levelWs.map Value.string).toArray) (.int .i64 (k : Nat))).run Tryz.prog W = .ok (.string (levelWs.getD k default)) W := by
  rcases (by omega : k = 0 ∨ k = 1 ∨ k = 2 ∨ k = 3 ∨ k = 4 ∨ k = 5) with rfl | rfl | rfl | rfl | rfl | rfl <;> kernel_rfl
/-- A level of a name. -/
def lvOfV (x : ByteArray) : Value := match idxB x levelWs 0 with
  | some n => .tuple #[.int .i64 (n : Int), .bool true]
  | none => .tuple #[.int .i64 0, .bool false]
set_option maxHeartbeats 4000000 in
set_option maxRecDepth 100000 in
theorem lvOf_is (x : ByteArray) (w : World) (h : NamesAt w) : Calls Tryz.prog 98 #[.string x] w fun e w' => e = .returned (lvOfV x) ∧ w = w' := by
  have c0 := h 0 (by decide)
  have c1 := h 1 (by decide)
  have c2 := h 2 (by decide)
  have c3 := h 3 (by decide)
  have c4 := h 4 (by decide)
  have c5 := h 5 (by decide)
  have H0 : Hid (idxB x levelWs 0 = idxB x (levelWs.drop 0) 0) := by show _ = _; rw [List.drop_zero]
  have hl6 : levelWs.length = 6 := rfl
  have NX : Hid (∀ (k : Nat) (hk : k < 6) (W : World), (Instr.index 111 (.agg #[.string (levelWs.getD 0 default), .string (levelWs.getD 1 default), .string (levelWs.getD 2 default), .string (levelWs.getD 3 default), .string (levelWs.getD 4 default), .string (levelWs.getD 5 default)]) (.int .i64 (k : Nat))).run Tryz.prog W = .ok (.string (levelWs.getD k default)) W) := names_ix
  clear h
  generalize levelWs.getD 0 default = y0 at c0 NX
  generalize levelWs.getD 1 default = y1 at c1 NX
  generalize levelWs.getD 2 default = y2 at c2 NX
  generalize levelWs.getD 3 default = y3 at c3 NX
  generalize levelWs.getD 4 default = y4 at c4 NX
  generalize levelWs.getD 5 default = y5 at c5 NX
  go_enter Tryz.func98, Tryz.ntmps98
  go_wp2_with fail
  go_loopg [4, 5, 7] 6 (fun g _ _ kv wr => ∃ k : Nat, k ≤ 6 ∧ 6 - k ≤ g ∧ kv = .int .i64 k ∧ Aside (idxB x levelWs 0 = idxB x (levelWs.drop k) k ∧ wr = w))
  case atStart => exact ⟨0, Nat.zero_le _, by omega, rfl, H0.out, rfl⟩
  case round =>
    obtain ⟨k, hk, hg, rfl, HX⟩ := hrel
    obtain ⟨HI0, rfl⟩ := HX.out
    have HI := hid HI0
    clear HI0 HX H0
    by_cases hlt : k < 6
    · have hlti : (k : Int) < 6 := by omega
      have ck := NX.out k hlt
      have st := idx_step (x := x) (ws := levelWs) (k := k) (by rw [hl6]; exact hlt)
      generalize levelWs.getD k default = y at ck st
      cases hy : x.toList == y.toList with
      | true =>
        have hy2 : (y.toList == x.toList) = true := by rw [beq_sw]; exact hy
        rw [hy, if_pos rfl] at st
        have ST : Hid (lvOfV x = .tuple #[.int .i64 (k : Int), .bool true]) := by show _ = _; unfold lvOfV; rw [HI.out, st]
        clear st hy
        go_wp2_with fail
        go_ret2
        exact ⟨by rw [ST.out]; rfl, rfl⟩
      | false =>
        have hy2 : (y.toList == x.toList) = false := by rw [beq_sw]; exact hy
        rw [hy, if_neg (by simp)] at st
        have ST := hid (HI.out.trans st)
        clear st hy
        go_wp2_with fail
        go_roundg (6 - (k + 1))
        case measure => omega
        case rel => exact ⟨k + 1, by omega, by omega, by go_num, ST.out, rfl⟩
    · have hlti : ¬ (k : Int) < 6 := by omega
      have ST : Hid (lvOfV x = .tuple #[.int .i64 0, .bool false]) := by
        show _ = _
        unfold lvOfV
        rw [HI.out, List.drop_eq_nil_of_le (by rw [hl6]; omega)]
        rfl
      go_wp2_with fail
      go_ret2
      exact ⟨by rw [ST.out]; rfl, rfl⟩
end Go.Proofs.YtkpomcimaofkkaaGreatDoor.Rp
namespace Go.Proofs.YtkpomcimaofkkaaGreatDoor.Rp
set_option linter.unusedVariables false
set_option linter.unusedSimpArgs false
open Go.RowKit Go.Lib

theorem qLv_none {T : List MTok} (h : qTake 1 T = none) : qOne levelWs T = none := andQ_none h
set_option maxHeartbeats 2000000 in
set_option maxRecDepth 100000 in
theorem clevel_is (bx : Nat) (T : List MTok) (w : World) (h : PQ bx T w) (hN : NamesAt w) (hb0 : 0 ≠ bx) :
    Calls Tryz.prog 64 #[.pointer (some ⟨bx, 0, none⟩)] w fun e w' => ToldQ bx w (fun n => .int .i64 n) (qOne levelWs T) e w' := by
  have K := hid (ctake_is bx 1 T w h)
  have HW := hid hN
  clear h hN
  go_enter Tryz.func64, Tryz.ntmps64
  go_wp2_with fail
  go_at_call 95
  refine K.out.mono ?_
  rintro e w2 h2
  cases hp : qTake 1 T with
  | none =>
    rw [hp] at h2
    obtain ⟨rfl, b2⟩ := h2
    exact ⟨rfl, toldQ_none (qOne_none hp) rfl b2⟩
  | some z =>
    obtain ⟨⟨t0, t1, t2, t3⟩, r⟩ := z
    rw [hp] at h2
    obtain ⟨p2, rfl, b2⟩ := h2
    have tf := tokf2 t0 t1 t2 t3
    have I := hid (lvOf_is t2 w2 (HW.out.beside b2 hb0))
    have P2 := hid p2
    have B2 := hid b2
    have HP := hid (qOne_some (ws := levelWs) hp)
    clear p2 b2 hp HW K
    unfold lvOfV at I
    cases hi : idxB t2 levelWs 0 with
    | none =>
      rw [hi] at I
      have HP2 : Hid (qOne levelWs T = none) := by have := HP.out; simp only [hi] at this; exact this
      clear HP
      go_wp2_with (first | (go_at_call 98; refine I.out.mono ?_; rintro e w3 ⟨rfl, rfl⟩) | (go_at_call 20; refine (giveUp_is _).mono ?_; rintro e w3 ⟨rfl, rfl⟩))
      exact ⟨rfl, toldQ_none HP2.out rfl B2.out⟩
    | some n =>
      rw [hi] at I
      have HP2 : Hid (qOne levelWs T = some ((n : Int), r)) := by have := HP.out; simp only [hi] at this; exact this
      clear HP
      go_wp2_with (go_at_call 98; refine I.out.mono ?_; rintro e w3 ⟨rfl, rfl⟩)
      go_ret
      exact toldQ_some HP2.out P2.out rfl B2.out
/-- A box whole. -/
abbrev BoxW (w : World) (o : Nat) (t : TypeId) (cs : Array Value) : Prop := w.heap[o]? = some (.cells cs t (0, 0))
section
variable {w : World} {o : Nat} {t : TypeId} {cs : Array Value}
theorem BoxW.lt (h : BoxW w o t cs) : o < w.heap.size := (Array.getElem?_eq_some_iff.1 h).1
theorem BoxW.cell (h : BoxW w o t cs) (j : Nat) : w.cell? ⟨o, j, none⟩ = cs[j]? := Lib.cell_of_heap h j
theorem BoxW.soft (h : BoxW w o t cs) (j : Nat) : w.frozen? ⟨o, j, none⟩ = false := Lib.frozen_of_heap h j
theorem BoxW.beside {bx : Nat} {w' : World} (h : BoxW w o t cs) (hb : Beside bx w w') (hn : o ≠ bx) : BoxW w' o t cs := (hb.block o h.lt hn).trans h
theorem BoxW.later {w' : World} (h : BoxW w o t cs) (hb : Below w.heap.size w w') : BoxW w' o t cs := (hb.block o h.lt).trans h
theorem BoxW.other {g i : Nat} {u : Value} (h : BoxW w o t cs) (hg : o ≠ g) : BoxW (w.setCell ⟨g, i, none⟩ u) o t cs := by
  refine (?_ : (w.setCell ⟨g, i, none⟩ u).heap[o]? = w.heap[o]?).trans h
  simp only [World.setCell, Array.getElem?_modify]
  rw [if_neg (fun c => hg c.symm)]
theorem BoxW.set {i : Nat} {u : Value} {cs' : Array Value} (h : BoxW w o t cs) (e : cs.setIfInBounds i u = cs') : BoxW (w.setCell ⟨o, i, none⟩ u) o t cs' := by
  show (w.setCell ⟨o, i, none⟩ u).heap[o]? = _
  simp only [World.setCell, Array.getElem?_modify]
  rw [if_pos trivial, h]
  simp [← e]
end
theorem box_new (w : World) (cs : Array Value) (t : TypeId) : BoxW (w.alloc (.cells cs t)) w.heap.size t cs := heap_alloc_new w _
theorem Beside.keepsIn {bx B : Nat} {w w' : World} (h : Beside bx w w') (hB : bx < B) (S : Nat → Prop) (hS : ∀ b, S b → B ≤ b) : KeepsIn S w w' := fun b hb hlt => h.block b hlt (by have := hS b hb; omega)
theorem Beside.later {bx : Nat} {w w3 w4 : World} (h : Beside bx w w3) (hb : Below w.heap.size w3 w4) : Beside bx w w4 :=
  ⟨hb.os.trans h.os, hb.tape.trans h.tape, hb.output.trans h.output, Nat.le_trans h.size hb.size, fun k hk hn => (hb.block k hk).trans (h.block k hk hn)⟩
section
variable {α : Type} [Inhabited α] {e size : Nat} {R : (Nat → Prop) → World → List Value → α → Prop} {B bx : Nat} {wr w3 w4 : World} {v : Value} {n : Nat} {rows : List (List Value)} {l : List α}
theorem OutInv.beside (hkeep : ∀ (S T : Nat → Prop) w w' cs x, R S w cs x → KeepsIn S w w' → (∀ b, b < w.heap.size → S b → T b) → R T w' cs x) (h : OutInv e size R B wr v n rows l) (hb : Beside bx wr w3) (hB : bx < B) : OutInv e size R B w3 v n rows l :=
  ⟨h.rn, h.ln, owns_keep h.own (fun g hg => hb.block g (h.own.lt g hg).2 (by have := (h.own.lt g hg).1; omega)), h.sizes, fun j hj => hkeep _ _ _ _ _ _ (h.each j hj) (hb.keepsIn hB _ (fun b hS => hS.1)) (fun _ _ h => h)⟩
theorem OutInv.grow (hkeep : ∀ (S T : Nat → Prop) w w' cs x, R S w cs x → KeepsIn S w w' → (∀ b, b < w.heap.size → S b → T b) → R T w' cs x)
    (h : OutInv e size R B wr v n rows l) (hB : B ≤ wr.heap.size) (hbx : bx < B) (h3 : Beside bx wr w3) {row : List Value} {x : α} (hrow : R (fun b => wr.heap.size ≤ b) w3 row x) (hlen : row.length = size)
    {g cap : Nat} (hown : w4.ownsRow B e size (.slice (some ⟨g, 0, none⟩) (n + 1) cap) (n + 1) (rows.flatten ++ row)) (hgrow : w3.grownBy w4 v.ownBlock) (hat : v.ownBlock = some g ∨ g = w3.heap.size) :
    OutInv e size R B w4 (.slice (some ⟨g, 0, none⟩) (n + 1) cap) (n + 1) (rows ++ [row]) (l ++ [x]) := by
  have hsz := h3.size
  have hlt : ∀ k, v.ownBlock = some k → k < wr.heap.size := fun k hk => (h.own.lt k hk).2
  refine ⟨by simp [h.rn], by simp [h.ln], by simpa using hown, ?_, fun j hj => ?_⟩
  · intro r hr
    rcases List.mem_append.1 hr with hr | hr
    · exact h.sizes r hr
    · simp at hr; rw [hr]; exact hlen
  · by_cases hjn : j < n
    · have e1 : (rows ++ [row]).getD j [] = rows.getD j [] := by simp [List.getD, List.getElem?_append_left (show j < rows.length by rw [h.rn]; exact hjn)]
      have e2 : (l ++ [x]).getD j default = l.getD j default := by simp [List.getD, List.getElem?_append_left (show j < l.length by rw [h.ln]; exact hjn)]
      rw [e1, e2]
      refine hkeep _ _ wr w4 _ _ (h.each j hjn) (fun b hb hbl => ?_) (fun b hbl hb => ⟨hb.1, ?_⟩)
      · exact (hgrow.block b (by omega) (fun e => hb.2 e.symm)).trans (h3.block b hbl (by have := hb.1; omega))
      · simp only [Value.ownBlock]
        intro e
        cases e
        rcases hat with h' | h'
        · exact hb.2 h'
        · omega
    · have hjn' : j = n := by omega
      subst hjn'
      have e1 : (rows ++ [row]).getD j [] = row := by simp [List.getD, ← h.rn]
      have e2 : (l ++ [x]).getD j default = x := by simp [List.getD, ← h.ln]
      rw [e1, e2]
      refine hkeep _ _ w3 w4 _ _ hrow (fun b hb hbl => ?_) (fun b hbl hb => ⟨by omega, ?_⟩)
      · exact hgrow.block b hbl (fun e => by have := hlt b e.symm; omega)
      · simp only [Value.ownBlock]
        intro e
        cases e
        rcases hat with h' | h'
        · have := hlt _ h'; omega
        · omega
theorem OutInv.sliceV (h : OutInv e size R B wr v n rows l) : ∃ a c, v = .slice a n c := by
  rcases h.own.2 with ⟨hv, hn⟩ | ⟨g, cap, cur, hv, _⟩
  · exact ⟨none, 0, by rw [hv, hn]⟩
  · exact ⟨_, cap, hv⟩
end
end Go.Proofs.YtkpomcimaofkkaaGreatDoor.Rp
