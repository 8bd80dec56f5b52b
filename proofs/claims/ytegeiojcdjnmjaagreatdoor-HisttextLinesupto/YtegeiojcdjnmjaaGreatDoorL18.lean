/-
  Walk of the reference's Scan.
  Walks of what holds errors and lists of tokens against one another.
  The code's Parse: what its deferred closure does with a fault that was given up with, and where there is none.
  The code's Parse: a text's history, or its first fault.
-/
import Derived.Test.YtegeiojcdjnmjaaGreatDoorL17
import Derived.Laws.StructEq
import Derived.Defers
import Derived.Laws.Pointers
namespace Go.Proofs.YtegeiojcdjnmjaaGreatDoor
set_option linter.unusedVariables false
set_option linter.unusedSimpArgs false
open Go.RowKit

/-- A slice whose length is within its capacity. -/
def Roomy (v : Value) : Prop := ∃ a n c, v = .slice a n c ∧ n ≤ c
theorem owns_roomy {w : World} {base e size n : Nat} {v : Value} {xs : List Value} (h : w.ownsRow base e size v n xs) : Roomy v := by
  rcases h.2 with ⟨rfl, _⟩ | ⟨g, cap, cur, rfl, _, _, hc, _⟩
  · exact ⟨_, _, _, rfl, Nat.le_refl _⟩
  · exact ⟨_, _, _, rfl, hc⟩

/-- What the reference's Scan answers. -/
def RefPost (w : World) (r : Except (Nat × Nat) (List MTok)) (e : Ending) (w' : World) : Prop :=
  match r with
  | .ok l => ∃ v, e = .returned (.tuple #[v, .int .i64 0, .int .i64 0]) ∧ ToksIn (fun b => w.heap.size ≤ b) w' v l ∧ Roomy v
  | .error (a, y) => e = .returned (.tuple #[.slice none 0 0, .int .i64 a, .int .i64 y])

theorem tokM_err {s : ByteArray} {i a y : Nat} (h : tokM s i = .error (a, y)) : ((y : Int) != 0) = true := by
  unfold tokM at h
  split at h
  · cases h
  · split at h
    · split at h
      · rename_i e he
        cases h
        exact numM_err he
      · cases h
    · split at h
      · cases h
      · split at h
        · cases h
        · cases h; rfl

set_option maxRecDepth 100000 in
set_option maxHeartbeats 4000000 in
theorem refScan_walk (s : ByteArray) (w : World) (hs : s.size ≤ 20000) :
    Calls Tryz.prog 16 #[.string s] w fun e w' => RefPost w (left s 0 []) e w' ∧ Below w.heap.size w w' := by
  obtain ⟨i0, hi0, hz0, hz1, hz2⟩ := info_parts Tryz.infoTok
  have hsd : decide ((20000 : Int) < (s.size : Int)) = false := by simp; omega
  go_enter Tryz.func16, Tryz.ntmps16
  go_wp2
  go_loopg [5, 6, 7, 8, 9, 10] s.size (fun g v at_ _ _ _ _ wr => ∃ (i : Nat) (rows : List (List Value)) (acc : List MTok), i ≤ s.size ∧ s.size - i ≤ g ∧ at_ = .int .i64 i ∧ acc.length ≤ i ∧ Aside (Below w.heap.size w wr) ∧ Aside (OutInv 57 4 TokRow w.heap.size wr v acc.length rows acc) ∧ Aside (left s 0 [] = left s i acc))
  case atStart => exact ⟨0, [], [], Nat.zero_le _, by omega, rfl, Nat.le_refl _, Below.refl _ _, OutInv.nil _ _ _ _ _, rfl⟩
  case round =>
    obtain ⟨i, rows, acc, hi, hg, rfl, hacc, BW, I, HL⟩ := hrel
    have hsz := BW.out.size
    by_cases hlt : i < s.size
    · have hlti : (i : Int) < (s.size : Int) := by omega
      by_cases hnb : bt s i = 32
      · have HT : Hid (left s 0 [] = left s (i + 1) acc) := HL.out.trans (left_blank acc hlt hnb)
        have q32 : ((((s[i]'hlt).toNat : Nat) : Int) == 32) = true := by rw [bt_get hlt, hnb]; rfl
        clear hnb
        go_wp2_with fail
        go_roundg (s.size - (i + 1))
        case measure => omega
        case rel => exact ⟨i + 1, rows, acc, by omega, by omega, by go_num, by omega, BW.out, I.out, HT.out⟩
      have q32 : ((((s[i]'hlt).toNat : Nat) : Int) == 32) = false := beq_eq_false_iff_ne.2 (by rw [bt_get hlt]; omega)
      have hc := refToken_any s i wr hs hlt
      cases hT : tokM s i with
      | error q =>
        obtain ⟨a, y⟩ := q
        have HEND : Hid (left s 0 [] = .error (a, y)) := HL.out.trans (left_bad acc hlt hnb hT)
        have hy := tokM_err hT
        rw [hT] at hc
        simp only [refTokVal] at hc
        have HC := hid hc
        clear hc hT hnb
        go_wp2_with fail
        refine HC.out.mono ?_
        rintro e' w1 ⟨rfl, hb1⟩
        have HB1 : Hid (Below w.heap.size w w1) := BW.out.trans (hb1.mono hsz)
        have hs1 : w.heap.size ≤ w1.heap.size := HB1.out.size
        clear hb1
        go_wp2_with fail
        rw [HEND.out]
        exact bodyPost_ret (v := .tuple #[.slice none 0 0, .int .i64 a, .int .i64 y]) (by simp [results, Tryz.results30, go_sem]) rfl ⟨rfl, HB1.out.alloc hs1 _⟩
      | ok q =>
        obtain ⟨t, k⟩ := q
        have hK := tokM_gt hT hlt
        have HLN := hid (left_good HL.out hlt hnb hT)
        rw [hT] at hc
        obtain ⟨kd, ta, tx, nm⟩ := t
        simp only [refTokVal] at hc
        have HC := hid hc
        clear hc hT hnb
        go_wp2_with fail
        refine HC.out.mono ?_
        rintro e' w1 ⟨rfl, hb1⟩
        have hs1 : wr.heap.size ≤ w1.heap.size := hb1.size
        have HB1 := hid hb1
        clear hb1
        go_wp2_with (at_builtin; refine wpList_append_lies _ rfl _ _ 40 rfl w.heap.size 57 i0 _ 4 40 Tryz.underlying40 hi0 hz0 hz1 hz2 rfl (by decide) u5 acc.length rows.flatten rfl ?hown ⟨w1.heap.size + 1, 0, none⟩ 1 1 [.int .i64 kd, .int .i64 ta, .string tx, .int .i64 nm] rfl rfl ?hnews ?hone (by decide) ?h63 ?hby ?hbase (w1.heap.size + 2) ?hH ?_)
        case hown => exact I.out.own3 ((HB1.out.alloc hs1 _).alloc (by simp; omega) _)
        case hnews => exact World.news_of_block (by simpa using heap_alloc_new (w1.alloc (.cells #[.int .i64 kd, .int .i64 ta, .string tx, .int .i64 nm] 57)) (.cells #[.int .i64 kd, .int .i64 ta, .string tx, .int .i64 nm] 57))
        case hone => intro u hu; simp at hu; rcases hu with rfl | rfl | rfl | rfl <;> rfl
        case h63 => unfold maxLen; omega
        case hby => omega
        case hbase => simp; omega
        case hH => simp
        intro g cap w4 hown4 hgrow hat hglt
        have B3 : Below wr.heap.size wr ((w1.alloc (.cells #[.int .i64 kd, .int .i64 ta, .string tx, .int .i64 nm] 57)).alloc (.cells #[.int .i64 kd, .int .i64 ta, .string tx, .int .i64 nm] 57)) := (HB1.out.alloc hs1 _).alloc (by simp; omega) _
        have hbw4 : Below w.heap.size w w4 := BW.out.trans ((B3.mono hsz).grown hgrow (by simp; omega) (fun x hx => (I.out.own.lt x hx).1))
        have I4 := hid (OutInv.step (x := ((kd, ta, tx, nm) : MTok)) tokRow_keep I.out hsz B3 rfl rfl hown4 hgrow (by simpa using hat))
        have HBW4 := hid hbw4
        clear hown4 hgrow hat B3 hbw4
        go_wp2_with fail
        go_roundg (s.size - k)
        case measure => omega
        case rel => exact ⟨k, rows ++ [_], acc ++ [_], by omega, by omega, by go_num, by simp; omega, HBW4.out, (by show OutInv _ _ _ _ _ _ _ _ _; simpa using I4.out), HLN.out⟩
    · have hlti : ¬ (i : Int) < (s.size : Int) := by omega
      have HEND : Hid (left s 0 [] = .ok acc) := HL.out.trans (left_end acc hlt)
      go_wp2_with fail
      rw [HEND.out]
      exact bodyPost_ret (v := .tuple #[u5, .int .i64 0, .int .i64 0]) (by simp [results, Tryz.results30, go_sem]) rfl ⟨⟨_, rfl, OutInv.rows_in (bytes := 40) tokRow_keep I.out (by omega), owns_roomy I.out.own⟩, BW.out⟩

/-- A text that is too long. -/
theorem refScan_long (s : ByteArray) (w : World) (hs : 20000 < s.size) :
    Calls Tryz.prog 16 #[.string s] w fun e w' => RefPost w (.error (0, 4)) e w' ∧ Below w.heap.size w w' := by
  have hsd : decide ((20000 : Int) < (s.size : Int)) = true := by simp; omega
  have hsi : (20000 : Int) < (s.size : Int) := by omega
  go_enter Tryz.func16, Tryz.ntmps16
  go_wp2
  exact bodyPost_ret (v := .tuple #[.slice none 0 0, .int .i64 0, .int .i64 4]) (by simp [results, Tryz.results30, go_sem]) rfl ⟨rfl, Below.refl _ _⟩

theorem scan_long (s : ByteArray) (w : World) (hs : 20000 < s.size) :
    Calls Tryz.prog 13 #[.string s] w fun e w' => ScanPost w (.error (0, 4)) e w' ∧ Below w.heap.size w w' := by
  have hsi : (20000 : Int) < (s.size : Int) := by omega
  go_enter Tryz.func13, Tryz.ntmps13
  go_wp2
  go_step3
  go_wp2
  first | rw [Exit.noGoto_ret] | skip
  exact bodyPost_ret (v := .tuple #[.slice none 0 0, .iface 44 (.agg #[.int .i64 0, .int .i64 4])]) (by simp [results, Tryz.results9, go_sem]) rfl ⟨rfl, Below.refl _ _⟩
end Go.Proofs.YtegeiojcdjnmjaaGreatDoor
namespace Go.Proofs.YtegeiojcdjnmjaaGreatDoor
set_option linter.unusedVariables false
set_option linter.unusedSimpArgs false
open Go.RowKit

theorem why_nil (w : World) : Calls Tryz.prog 12 #[.nilIface] w fun e w' => e = .returned (.tuple #[.int .i64 0, .int .i64 0]) ∧ Below w.heap.size w w' := by
  go_enter Tryz.func12, Tryz.ntmps12
  go_wp2
  go_ret2
  exact ⟨rfl, Below.refl _ _⟩

theorem assertFault (a y : Int) (w : World) : (Instr.typeAssert (.iface 44 (.agg #[.int .i64 a, .int .i64 y])) 24 44 true).run Tryz.prog w = .ok (.tuple #[.agg #[.int .i64 a, .int .i64 y], .bool true]) w := by kernel_rfl

set_option maxRecDepth 100000 in
set_option maxHeartbeats 1000000 in
theorem why_fault (a y : Int) (w : World) : Calls Tryz.prog 12 #[.iface 44 (.agg #[.int .i64 a, .int .i64 y])] w fun e w' => e = .returned (.tuple #[.int .i64 y, .int .i64 a]) ∧ Below w.heap.size w w' := by
  have hta := assertFault a y
  go_enter Tryz.func12, Tryz.ntmps12
  go_wp2
  go_quiet (fail)
  go_wp2
  go_ret2
  exact ⟨rfl, below_drewN ((Below.refl _ _).alloc (Nat.le_refl _) _) _⟩
/-- An error is a number at a place. -/
theorem is_nil (w : World) : Calls Tryz.prog 7 #[.nilIface, .int .i64 0, .int .i64 0] w fun e w' => e = .returned (.bool true) ∧ Below w.heap.size w w' := by
  go_enter Tryz.func7, Tryz.ntmps7
  go_wp2_with (go_at_call 12; refine (why_nil _).mono ?_; rintro e w' ⟨rfl, hb⟩)
  go_ret
  exact ⟨rfl, hb⟩

theorem is_fault (a y : Int) (w : World) : Calls Tryz.prog 7 #[.iface 44 (.agg #[.int .i64 a, .int .i64 y]), .int .i64 a, .int .i64 y] w fun e w' => e = .returned (.bool true) ∧ Below w.heap.size w w' := by
  have h1 : (a == a) = true := by simp
  have h2 : (y == y) = true := by simp
  go_enter Tryz.func7, Tryz.ntmps7
  go_wp2_with (go_at_call 12; refine (why_fault _ _ _).mono ?_; rintro e w' ⟨rfl, hb⟩)
  go_ret
  exact ⟨by simp, hb⟩

/-- Scan and its reference, at any text. -/
theorem scan_any (s : ByteArray) (w : World) (te : TypeId) (pe : Value) (hv : w.cell? ⟨4, 0, none⟩ = some (.iface te pe)) :
    Calls Tryz.prog 13 #[.string s] w fun e w' => ScanPost w (scanM s) e w' ∧ Below w.heap.size w w' := by
  by_cases h : 20000 < s.size
  · unfold scanM; rw [if_pos h]; exact scan_long s w h
  · rw [scanM_left (by omega)]; exact scan_walk s w (by omega) te pe hv

theorem refScan_any (s : ByteArray) (w : World) : Calls Tryz.prog 16 #[.string s] w fun e w' => RefPost w (scanM s) e w' ∧ Below w.heap.size w w' := by
  by_cases h : 20000 < s.size
  · unfold scanM; rw [if_pos h]; exact refScan_long s w h
  · rw [scanM_left (by omega)]; exact refScan_walk s w (by omega)

end Go.Proofs.YtegeiojcdjnmjaaGreatDoor
namespace Go.Proofs.YtegeiojcdjnmjaaGreatDoor
set_option linter.unusedVariables false
set_option linter.unusedSimpArgs false
open Go.RowKit

theorem assertFault2 (a y : Int) (w : World) : (Instr.typeAssert (.iface 44 (.agg #[.int .i64 a, .int .i64 y])) 20 44 true).run Tryz.prog w = .ok (.tuple #[.agg #[.int .i64 a, .int .i64 y], .bool true]) w := by kernel_rfl
set_option maxHeartbeats 4000000 in
set_option maxRecDepth 100000 in
theorem catch_fault (pl pe : Nat) (a y : Int) (lv ev : Value) (older : List PanicEntry) (w : World) (hc : w.cell? ⟨pl, 0, none⟩ = some (.slice none 0 0)) (he : w.cell? ⟨pe, 0, none⟩ = some .nilIface) (hz : w.frozen? ⟨pl, 0, none⟩ = false) (hy : w.frozen? ⟨pe, 0, none⟩ = false) (hne : pl ≠ pe) :
    CallsD Tryz.prog 14 #[.pointer (some ⟨pl, 0, none⟩), .pointer (some ⟨pe, 0, none⟩)] (.panicking ({ v := .iface 44 (.agg #[.int .i64 a, .int .i64 y]), recovered := false } :: older)) w fun e u' w' =>
      e = .returned (.tuple #[]) ∧ u' = .panicking ({ v := .iface 44 (.agg #[.int .i64 a, .int .i64 y]), recovered := true } :: older) ∧ w'.cell? ⟨pl, 0, none⟩ = some (.slice none 0 0) ∧ w'.cell? ⟨pe, 0, none⟩ = some (.iface 44 (.agg #[.int .i64 a, .int .i64 y])) ∧ w.heap.size ≤ w'.heap.size ∧ (∀ b, b < w.heap.size → b ≠ pl → b ≠ pe → w'.heap[b]? = w.heap[b]?) ∧ w'.os = w.os ∧ w'.tape = w.tape ∧ w'.output = w.output := by
  have hpl : pl < w.heap.size := World.block_lt_of_cell? _ _ hc
  have hpe : pe < w.heap.size := World.block_lt_of_cell? _ _ he
  have hta := assertFault2 a y
  refine callsD_of_wpS Tryz.func14 rfl fun c₀ cs hu => ?_
  apply wpS_seq
  apply wpS_region
  simp [wpOpsS, go_sem, recoverD, hu, Tryz.ntmps14, Exit.thenS]
  refine wpS_of_wp ?_
  have e1 : (#[Value.pointer (some ⟨pl, 0, none⟩), Value.pointer (some ⟨pe, 0, none⟩)] ++ ((Array.replicate 16 undef).setIfInBounds 3 (Value.iface 44 (.agg #[.int .i64 a, .int .i64 y]))).setIfInBounds 0 (Value.iface 44 (.agg #[.int .i64 a, .int .i64 y])) : Array Value) = #[Value.pointer (some ⟨pl, 0, none⟩), Value.pointer (some ⟨pe, 0, none⟩), Value.iface 44 (.agg #[.int .i64 a, .int .i64 y]), undef, undef, Value.iface 44 (.agg #[.int .i64 a, .int .i64 y]), undef, undef, undef, undef, undef, undef, undef, undef, undef, undef, undef, undef] := rfl
  rw [e1]
  clear e1
  go_wp2_with fail
  go_region
  have hs1 : ((w.setCell ⟨pl, 0, none⟩ (.slice none 0 0)).setCell ⟨pe, 0, none⟩ (.iface 44 (.agg #[.int .i64 a, .int .i64 y]))).heap.size = w.heap.size := by simp [World.setCell]
  have c1 : ((w.setCell ⟨pl, 0, none⟩ (.slice none 0 0)).setCell ⟨pe, 0, none⟩ (.iface 44 (.agg #[.int .i64 a, .int .i64 y]))).cell? ⟨pl, 0, none⟩ = some (.slice none 0 0) := (World.cell?_setCell_other _ _ _ _ (by simp [Ne.symm hne])).trans (World.cell?_setCell_same _ _ _ hc)
  have c2 : ((w.setCell ⟨pl, 0, none⟩ (.slice none 0 0)).setCell ⟨pe, 0, none⟩ (.iface 44 (.agg #[.int .i64 a, .int .i64 y]))).cell? ⟨pe, 0, none⟩ = some (.iface 44 (.agg #[.int .i64 a, .int .i64 y])) := World.cell?_setCell_same _ _ _ ((World.cell?_setCell_other _ _ _ _ (by simp [hne])).trans he)
  refine ⟨rfl, _, rfl, .tuple #[], results_none rfl _ _ _, rfl, rfl, Lib.cell?_alloc_some _ c1, Lib.cell?_alloc_some _ c2, ?_, fun b hb h1 h2 => ?_, rfl, rfl, rfl⟩
  · show w.heap.size ≤ (World.alloc _ _).heap.size
    simp [World.setCell]
  · refine (Lib.alloc_old _ _ _ (by rw [hs1]; exact hb)).trans ?_
    simp only [World.setCell, Array.getElem?_modify]
    rw [if_neg (fun c => h2 c.symm), if_neg (fun c => h1 c.symm)]
set_option maxHeartbeats 4000000 in
set_option maxRecDepth 100000 in
theorem catch_idle (p q : Addr) (w : World) :
    CallsD Tryz.prog 14 #[.pointer (some p), .pointer (some q)] .returning w fun e u' w' => e = .returned (.tuple #[]) ∧ u' = .returning ∧ w' = w := by
  refine callsD_of_wpS Tryz.func14 rfl fun c₀ cs hu => ?_
  apply wpS_seq
  apply wpS_region
  simp [wpOpsS, go_sem, recoverD, hu, Tryz.ntmps14, Exit.thenS]
  refine wpS_of_wp ?_
  have e1 : (#[Value.pointer (some p), Value.pointer (some q)] ++ ((Array.replicate 16 undef).setIfInBounds 3 Value.nilIface).setIfInBounds 0 Value.nilIface : Array Value) = #[Value.pointer (some p), Value.pointer (some q), Value.nilIface, undef, undef, Value.nilIface, undef, undef, undef, undef, undef, undef, undef, undef, undef, undef, undef, undef] := rfl
  rw [e1]
  clear e1
  go_wp2_with fail
  refine ⟨rfl, _, ?_, .tuple #[], results_none rfl _ _ _, rfl, rfl, rfl⟩
  cases c₀
  simp_all
end Go.Proofs.YtegeiojcdjnmjaaGreatDoor
namespace Go.Proofs.YtegeiojcdjnmjaaGreatDoor
set_option linter.unusedVariables false
set_option linter.unusedSimpArgs false
open Go.RowKit

/-- A text's history, plain. -/
def parseM (s : ByteArray) : Except (Int × Int) (List MEv) := match scanM s with
  | .ok T => pHist (s.size : Int) (T.length + 1) T []
  | .error (a, y) => .error ((a : Int), (y : Int))
theorem parseM_ok {s : ByteArray} {T : List MTok} (h : scanM s = .ok T) : parseM s = pHist (s.size : Int) (T.length + 1) T [] := by unfold parseM; rw [h]
theorem parseM_err {s : ByteArray} {a y : Nat} (h : scanM s = .error (a, y)) : parseM s = .error ((a : Int), (y : Int)) := by unfold parseM; rw [h]
/-- What Parse answers. -/
def ParseT (w : World) (r : Except (Int × Int) (List MEv)) (e : Ending) (w' : World) : Prop := match r with
  | .ok l => ∃ v, e = .returned (.tuple #[v, .nilIface]) ∧ EvsIn (fun b => w.heap.size ≤ b) w' v l
  | .error f => e = .returned (.tuple #[.slice none 0 0, .iface 44 (.agg #[.int .i64 f.1, .int .i64 f.2])])
theorem left_of_toks {B : Nat} {w : World} {v : Value} {l : List MTok} {S : Nat → Prop} (h : ToksIn S w v l) (hB : w.heap.size ≤ B) : LeftP B w v l := by
  obtain ⟨ao, c, hv, hl, hc⟩ := h
  refine ⟨ao, c, hv, fun h0 => ?_⟩
  obtain ⟨b, off, ha, hS, hj⟩ := hc h0
  refine ⟨b, off, ha, ?_, fun j hjl i u hi => ?_⟩
  · obtain ⟨cs, h1, h2, h3⟩ := hj 0 h0
    exact Nat.lt_of_lt_of_le (World.block_lt_of_cell? _ _ (h3 0 cs[0] (List.getElem?_eq_getElem (by omega)))) hB
  · obtain ⟨cs, h1, h2, h3⟩ := hj j hjl
    have h2' : cs = tkC (l.getD j default) := h2
    subst h2'
    exact h3 i u hi
theorem scanFrom_len {s : ByteArray} : ∀ (f i : Nat) (acc l : List MTok), scanFrom s f i acc = .ok l → l.length ≤ acc.length + f
  | 0, i, acc, l, h => by cases h; omega
  | f + 1, i, acc, l, h => by
    unfold scanFrom at h
    split at h
    · split at h
      · have := scanFrom_len f _ _ _ h; omega
      · split at h
        · cases h
        · have := scanFrom_len f _ _ _ h; simp at this; omega
    · cases h; omega
theorem scanM_few {s : ByteArray} {l : List MTok} (h : scanM s = .ok l) : l.length ≤ 20000 ∧ s.size ≤ 20000 := by
  unfold scanM at h
  split at h
  · cases h
  · rename_i hs
    have := scanFrom_len _ _ _ _ h
    simp at this
    omega
set_option maxHeartbeats 8000000 in
set_option maxRecDepth 100000 in
theorem parse_is (s : ByteArray) (w : World) (te : TypeId) (pe : Value) (hv : w.cell? ⟨4, 0, none⟩ = some (.iface te pe)) :
    Calls Tryz.prog 5 #[.string s] w fun e w' => ParseT w (parseM s) e w' ∧ Below w.heap.size w w' := by
  have hmf : ∀ (fn : Fn) (first cap : Array Value) (w : World), (Instr.makeFunc fn first cap).run Tryz.prog w = .ok (.func fn first cap) w := fun _ _ _ _ => rfl
  have h1lt := World.block_lt_of_cell? _ _ hv
  obtain ⟨W0, hW0⟩ : ∃ W0, (w.alloc (.cells #[.slice none 0 0] 22)).alloc (.cells #[.nilIface] 24) = W0 := ⟨_, rfl⟩
  have B0 : Hid (Below w.heap.size w W0) := by rw [← hW0]; exact ((Below.refl _ w).alloc (Nat.le_refl _) _).alloc (by simp) _
  have hs0 : Hid (W0.heap.size = w.heap.size + 2) := by rw [← hW0]; show _ = _; simp
  have l0 : W0.cell? ⟨w.heap.size, 0, none⟩ = some (.slice none 0 0) := by rw [← hW0]; exact Lib.cell?_alloc_some _ (new_cells w _ 22 0)
  have lz : W0.frozen? ⟨w.heap.size, 0, none⟩ = false := by rw [← hW0]; exact ((below_box (w.alloc (.cells #[.slice none 0 0] 22)) _).frozen (p := ⟨w.heap.size, 0, none⟩) (by simp)).trans (Lib.frozen_of_heap (heap_alloc_new w _) 0)
  have e0 : W0.cell? ⟨w.heap.size + 1, 0, none⟩ = some .nilIface := by rw [← hW0]; simp
  have ez : W0.frozen? ⟨w.heap.size + 1, 0, none⟩ = false := by rw [← hW0]; have q := Lib.frozen_of_heap (heap_alloc_new (w.alloc (.cells #[.slice none 0 0] 22)) (.cells #[.nilIface] 24)) 0; rw [show (w.alloc (.cells #[.slice none 0 0] 22)).heap.size = w.heap.size + 1 by simp] at q; exact q
  have SC := hid (scan_any s W0 te pe (by rw [B0.out.cell (p := ⟨4, 0, none⟩) h1lt]; exact hv))
  have hlen := hs0.out
  cases hsc : scanM s with
  | error q =>
    obtain ⟨a, y⟩ := q
    rw [parseM_err hsc]
    rw [hsc] at SC
    go_enter_defers Tryz.func5, Tryz.ntmps5
    go_wp2_with fail
    go_at_call 13
    refine SC.out.mono ?_
    rintro e w1 ⟨rfl, b1⟩
    have l1 : w1.cell? ⟨w.heap.size, 0, none⟩ = some (.slice none 0 0) := (b1.cell (p := ⟨w.heap.size, 0, none⟩) (show w.heap.size < W0.heap.size by omega)).trans l0
    have e1 : w1.cell? ⟨w.heap.size + 1, 0, none⟩ = some .nilIface := (b1.cell (p := ⟨w.heap.size + 1, 0, none⟩) (show w.heap.size + 1 < W0.heap.size by omega)).trans e0
    have lz1 : w1.frozen? ⟨w.heap.size, 0, none⟩ = false := (b1.frozen (p := ⟨w.heap.size, 0, none⟩) (show w.heap.size < W0.heap.size by omega)).trans lz
    have ez1 : w1.frozen? ⟨w.heap.size + 1, 0, none⟩ = false := (b1.frozen (p := ⟨w.heap.size + 1, 0, none⟩) (show w.heap.size + 1 < W0.heap.size by omega)).trans ez
    have B1 : Hid (Below w.heap.size w w1) := B0.out.trans (b1.mono B0.out.size)
    clear b1 hW0 l0 lz e0 ez
    go_wp2_with fail
    go_region
    go_wp2_with fail
    refine ⟨.tuple #[.slice none 0 0, .iface 44 (.agg #[.int .i64 (a : Int), .int .i64 (y : Int)])], by simp [results, Tryz.results5, go_sem, l1, e1], rfl, ?_⟩
    exact below_drew1 (((B1.out.setCell (p := ⟨w.heap.size + 1, 0, none⟩) (Nat.le_succ _) _).setCell (p := ⟨w.heap.size, 0, none⟩) (Nat.le_refl _) _).setCell (p := ⟨w.heap.size + 1, 0, none⟩) (Nat.le_succ _) _)
  | ok T =>
    rw [parseM_ok hsc]
    rw [hsc] at SC
    go_enter_defers Tryz.func5, Tryz.ntmps5
    go_wp2_with fail
    go_at_call 13
    refine SC.out.mono ?_
    rintro e w1 ⟨⟨v, rfl, htk⟩, b1⟩
    have l1 : w1.cell? ⟨w.heap.size, 0, none⟩ = some (.slice none 0 0) := (b1.cell (p := ⟨w.heap.size, 0, none⟩) (show w.heap.size < W0.heap.size by omega)).trans l0
    have e1 : w1.cell? ⟨w.heap.size + 1, 0, none⟩ = some .nilIface := (b1.cell (p := ⟨w.heap.size + 1, 0, none⟩) (show w.heap.size + 1 < W0.heap.size by omega)).trans e0
    have lz1 : w1.frozen? ⟨w.heap.size, 0, none⟩ = false := (b1.frozen (p := ⟨w.heap.size, 0, none⟩) (show w.heap.size < W0.heap.size by omega)).trans lz
    have ez1 : w1.frozen? ⟨w.heap.size + 1, 0, none⟩ = false := (b1.frozen (p := ⟨w.heap.size + 1, 0, none⟩) (show w.heap.size + 1 < W0.heap.size by omega)).trans ez
    have B1 : Hid (Below w.heap.size w w1) := B0.out.trans (b1.mono B0.out.size)
    have B01 := hid b1
    have TK := hid htk
    obtain ⟨ta, tc, rfl, htk1, htk2⟩ := id htk
    clear htk1 htk2 htk b1 hW0 l0 lz e0 ez
    have hself := setCell_self e1
    have hs1 : W0.heap.size ≤ w1.heap.size := B01.out.size
    have HFEW := hid (scanM_few hsc)
    have HWDS := hid (wds_scan hsc)
    clear hsc
    go_wp2_with fail
    go_at_call 15
    have PB0 : PB w1.heap.size (s.size : Int) T 0 (w1.alloc (.cells #[.slice ta T.length tc, .int .i64 0, .int .i64 (s.size : Int)] 48)) :=
      ⟨⟨_, new_cells w1 _ 48 0, (left_of_toks TK.out (Nat.le_refl _)).keep (below_box w1 _)⟩, new_cells w1 _ 48 1, new_cells w1 _ 48 2, Lib.frozen_of_heap (heap_alloc_new w1 _) 1, Nat.zero_le _, HFEW.out.1⟩
    refine (history_is w1.heap.size (s.size : Int) T _ HWDS.out PB0).mono ?_
    rintro e w2 h2
    have cl : ∀ q : Nat, q < 2 → (w1.alloc (.cells #[.slice ta T.length tc, .int .i64 0, .int .i64 (s.size : Int)] 48)).heap[w.heap.size + q]? = w1.heap[w.heap.size + q]? := fun q hq => Lib.alloc_old _ _ _ (by omega)
    cases hph : pHist (s.size : Int) (T.length + 1) T [] with
    | error f =>
      rw [hph] at h2
      obtain ⟨rfl, b2⟩ := h2
      have k0 : w2.heap[w.heap.size]? = w1.heap[w.heap.size]? := (b2.block _ (by simp; omega) (by omega)).trans (cl 0 (by omega))
      have k1 : w2.heap[w.heap.size + 1]? = w1.heap[w.heap.size + 1]? := (b2.block _ (by simp; omega) (by omega)).trans (cl 1 (by omega))
      have l2 : w2.cell? ⟨w.heap.size, 0, none⟩ = some (.slice none 0 0) := (World.cell?_of_block (w := w1) k0).trans l1
      have e2 : w2.cell? ⟨w.heap.size + 1, 0, none⟩ = some .nilIface := (World.cell?_of_block (w := w1) k1).trans e1
      have lz2 : w2.frozen? ⟨w.heap.size, 0, none⟩ = false := (show w2.frozen? ⟨w.heap.size, 0, none⟩ = w1.frozen? ⟨w.heap.size, 0, none⟩ by unfold World.frozen?; rw [k0]).trans lz1
      have ez2 : w2.frozen? ⟨w.heap.size + 1, 0, none⟩ = false := (show w2.frozen? ⟨w.heap.size + 1, 0, none⟩ = w1.frozen? ⟨w.heap.size + 1, 0, none⟩ by unfold World.frozen?; rw [k1]).trans ez1
      refine leaves_cons (f := 14) (args := #[.pointer (some ⟨w.heap.size, 0, none⟩), .pointer (some ⟨w.heap.size + 1, 0, none⟩)]) (by simp) (by simp [go_sem]) ?_
      refine (catch_fault w.heap.size (w.heap.size + 1) f.1 f.2 .nilIface .nilIface [] w2 l2 e2 lz2 ez2 (by omega)).mono ?_
      rintro e u' w3 ⟨rfl, rfl, c1, c2, hsz, hb, o1, o2, o3⟩
      refine ⟨.tuple #[.slice none 0 0, .iface 44 (.agg #[.int .i64 f.1, .int .i64 f.2])], by simp [results, Tryz.results5, go_sem, c1, c2], ?_, ?_⟩
      · rw [hph]; rfl
      · have hsb := b2.size
        have hbx : (w1.alloc (.cells #[.slice ta T.length tc, .int .i64 0, .int .i64 (s.size : Int)] 48)).heap.size = w1.heap.size + 1 := by simp
        exact ⟨o1.trans (b2.os.trans B1.out.os), o2.trans (b2.tape.trans B1.out.tape), o3.trans (b2.output.trans B1.out.output), by have := B1.out.size; omega, fun b hlt => (hb b (by omega) (by omega) (by omega)).trans ((b2.block b (by omega) (by omega)).trans ((Lib.alloc_old _ _ _ (by omega)).trans (B1.out.block b hlt)))⟩
    | ok l =>
      rw [hph] at h2
      obtain ⟨⟨v, rfl, hev⟩, b2⟩ := h2
      have k0 : w2.heap[w.heap.size]? = w1.heap[w.heap.size]? := (b2.block _ (by simp; omega) (by omega)).trans (cl 0 (by omega))
      have k1 : w2.heap[w.heap.size + 1]? = w1.heap[w.heap.size + 1]? := (b2.block _ (by simp; omega) (by omega)).trans (cl 1 (by omega))
      have l2 : w2.cell? ⟨w.heap.size, 0, none⟩ = some (.slice none 0 0) := (World.cell?_of_block (w := w1) k0).trans l1
      have e2 : w2.cell? ⟨w.heap.size + 1, 0, none⟩ = some .nilIface := (World.cell?_of_block (w := w1) k1).trans e1
      have lz2 : w2.frozen? ⟨w.heap.size, 0, none⟩ = false := (show w2.frozen? ⟨w.heap.size, 0, none⟩ = w1.frozen? ⟨w.heap.size, 0, none⟩ by unfold World.frozen?; rw [k0]).trans lz1
      have ez2 : w2.frozen? ⟨w.heap.size + 1, 0, none⟩ = false := (show w2.frozen? ⟨w.heap.size + 1, 0, none⟩ = w1.frozen? ⟨w.heap.size + 1, 0, none⟩ by unfold World.frozen?; rw [k1]).trans ez1
      obtain ⟨va, vc, rfl, hv1, hv2⟩ := id hev
      clear hv1 hv2
      have hsb := b2.size
      have hbx : (w1.alloc (.cells #[.slice ta T.length tc, .int .i64 0, .int .i64 (s.size : Int)] 48)).heap.size = w1.heap.size + 1 := by simp
      have HEV := hid hev
      have HB := hid b2
      have HPH := hid hph
      clear hev b2 hph cl
      go_wp2_with fail
      refine leaves_cons (f := 14) (args := #[.pointer (some ⟨w.heap.size, 0, none⟩), .pointer (some ⟨w.heap.size + 1, 0, none⟩)]) (by simp) (by simp [go_sem]) ?_
      refine (catch_idle _ _ _).mono ?_
      rintro e u' w3 ⟨rfl, rfl, rfl⟩
      refine ⟨.tuple #[.slice va l.length vc, .nilIface], by simp [results, Tryz.results5, go_sem, l2, e2], ?_, ?_⟩
      · rw [HPH.out]
        refine ⟨_, rfl, EvsIn.keep HEV.out (fun b hb hlt => ?_) (fun b _ hb => by omega)⟩
        have hb' : (w1.alloc (.cells #[.slice ta T.length tc, .int .i64 0, .int .i64 (s.size : Int)] 48)).heap.size ≤ b := hb
        simp only [World.setCell, Array.getElem?_modify]
        rw [if_neg (by omega), if_neg (by omega)]
      · have hm : Below w.heap.size w w2 := ⟨HB.out.os.trans B1.out.os, HB.out.tape.trans B1.out.tape, HB.out.output.trans B1.out.output, by have := B1.out.size; omega, fun b hlt => (HB.out.block b (by omega) (by omega)).trans ((Lib.alloc_old _ _ _ (by omega)).trans (B1.out.block b hlt))⟩
        exact (hm.setCell (p := ⟨w.heap.size, 0, none⟩) (Nat.le_refl _) _).setCell (p := ⟨w.heap.size + 1, 0, none⟩) (Nat.le_succ _) _
end Go.Proofs.YtegeiojcdjnmjaaGreatDoor
