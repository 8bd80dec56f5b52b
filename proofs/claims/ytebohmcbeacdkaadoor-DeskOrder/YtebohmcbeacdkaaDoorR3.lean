/-
  Walk of the reference's Scan.
-/
import Derived.Test.YtebohmcbeacdkaaDoorR2
namespace Go.Proofs.YtebohmcbeacdkaaDoor
set_option linter.unusedVariables false
set_option linter.unusedSimpArgs false
open Go.RowKit

/-- What the reference's Scan answers. -/
def RefPost (w : World) (r : Except (Nat × Nat) (List MTok)) (e : Ending) (w' : World) : Prop :=
  match r with
  | .ok l => ∃ v, e = .returned (.tuple #[v, .int .i64 0, .int .i64 0]) ∧ ToksIn (fun b => w.heap.size ≤ b) w' v l
  | .error (a, y) => e = .returned (.tuple #[.slice none 0 0, .int .i64 a, .int .i64 y])

theorem tokM_err {s : ByteArray} {i a y : Nat} (h : tokM s i = .error (a, y)) : ((y : Int) != 0) = true := by
  unfold tokM at h
  split at h
  · cases h
  · split at h
    · split at h
      · rename_i e he
        cases h
        exact numM_err he
      · cases h
    · split at h
      · cases h
      · split at h
        · cases h
        · cases h; rfl

set_option maxRecDepth 100000 in
set_option maxHeartbeats 4000000 in
theorem refScan_walk (s : ByteArray) (w : World) (hs : s.size ≤ 20000) :
    Calls Tryd.prog 11 #[.string s] w fun e w' => RefPost w (left s 0 []) e w' ∧ Below w.heap.size w w' := by
  obtain ⟨i0, hi0, hz0, hz1, hz2⟩ := info_parts Tryd.infoTok
  have hsd : decide ((20000 : Int) < (s.size : Int)) = false := by simp; omega
  go_enter Tryd.func11, Tryd.ntmps11
  go_wp2
  go_loopg [5, 6, 7, 8, 9, 10] s.size (fun g v at_ _ _ _ _ wr => ∃ (i : Nat) (rows : List (List Value)) (acc : List MTok), i ≤ s.size ∧ s.size - i ≤ g ∧ at_ = .int .i64 i ∧ acc.length ≤ i ∧ Aside (Below w.heap.size w wr) ∧ Aside (OutInv 43 4 TokRow w.heap.size wr v acc.length rows acc) ∧ Aside (left s 0 [] = left s i acc))
  case atStart => exact ⟨0, [], [], Nat.zero_le _, by omega, rfl, Nat.le_refl _, Below.refl _ _, OutInv.nil _ _ _ _ _, rfl⟩
  case round =>
    obtain ⟨i, rows, acc, hi, hg, rfl, hacc, BW, I, HL⟩ := hrel
    have hsz := BW.out.size
    by_cases hlt : i < s.size
    · have hlti : (i : Int) < (s.size : Int) := by omega
      by_cases hnb : bt s i = 32
      · have HT : Hid (left s 0 [] = left s (i + 1) acc) := HL.out.trans (left_blank acc hlt hnb)
        have q32 : ((((s[i]'hlt).toNat : Nat) : Int) == 32) = true := by rw [bt_get hlt, hnb]; rfl
        clear hnb
        go_wp2_with fail
        go_roundg (s.size - (i + 1))
        case measure => omega
        case rel => exact ⟨i + 1, rows, acc, by omega, by omega, by go_num, by omega, BW.out, I.out, HT.out⟩
      have q32 : ((((s[i]'hlt).toNat : Nat) : Int) == 32) = false := beq_eq_false_iff_ne.2 (by rw [bt_get hlt]; omega)
      have hc := refToken_any s i wr hs hlt
      cases hT : tokM s i with
      | error q =>
        obtain ⟨a, y⟩ := q
        have HEND : Hid (left s 0 [] = .error (a, y)) := HL.out.trans (left_bad acc hlt hnb hT)
        have hy := tokM_err hT
        rw [hT] at hc
        simp only [refTokVal] at hc
        have HC := hid hc
        clear hc hT hnb
        go_wp2_with fail
        refine HC.out.mono ?_
        rintro e' w1 ⟨rfl, hb1⟩
        have HB1 : Hid (Below w.heap.size w w1) := BW.out.trans (hb1.mono hsz)
        have hs1 : w.heap.size ≤ w1.heap.size := HB1.out.size
        clear hb1
        go_wp2_with fail
        rw [HEND.out]
        exact bodyPost_ret (v := .tuple #[.slice none 0 0, .int .i64 a, .int .i64 y]) (by simp [results, Tryd.results10, go_sem]) rfl ⟨rfl, HB1.out.alloc hs1 _⟩
      | ok q =>
        obtain ⟨t, k⟩ := q
        have hK := tokM_gt hT hlt
        have HLN := hid (left_good HL.out hlt hnb hT)
        rw [hT] at hc
        obtain ⟨kd, ta, tx, nm⟩ := t
        simp only [refTokVal] at hc
        have HC := hid hc
        clear hc hT hnb
        go_wp2_with fail
        refine HC.out.mono ?_
        rintro e' w1 ⟨rfl, hb1⟩
        have hs1 : wr.heap.size ≤ w1.heap.size := hb1.size
        have HB1 := hid hb1
        clear hb1
        go_wp2_with (at_builtin; refine wpList_append_lies _ rfl _ _ 37 rfl w.heap.size 43 i0 _ 4 40 Tryd.underlying37 hi0 hz0 hz1 hz2 rfl (by decide) u5 acc.length rows.flatten rfl ?hown ⟨w1.heap.size + 1, 0, none⟩ 1 1 [.int .i64 kd, .int .i64 ta, .string tx, .int .i64 nm] rfl rfl ?hnews ?hone (by decide) ?h63 ?hby ?hbase (w1.heap.size + 2) ?hH ?_)
        case hown => exact I.out.own3 ((HB1.out.alloc hs1 _).alloc (by simp; omega) _)
        case hnews => exact World.news_of_block (by simpa using heap_alloc_new (w1.alloc (.cells #[.int .i64 kd, .int .i64 ta, .string tx, .int .i64 nm] 43)) (.cells #[.int .i64 kd, .int .i64 ta, .string tx, .int .i64 nm] 43))
        case hone => intro u hu; simp at hu; rcases hu with rfl | rfl | rfl | rfl <;> rfl
        case h63 => unfold maxLen; omega
        case hby => omega
        case hbase => simp; omega
        case hH => simp
        intro g cap w4 hown4 hgrow hat hglt
        have B3 : Below wr.heap.size wr ((w1.alloc (.cells #[.int .i64 kd, .int .i64 ta, .string tx, .int .i64 nm] 43)).alloc (.cells #[.int .i64 kd, .int .i64 ta, .string tx, .int .i64 nm] 43)) := (HB1.out.alloc hs1 _).alloc (by simp; omega) _
        have hbw4 : Below w.heap.size w w4 := BW.out.trans ((B3.mono hsz).grown hgrow (by simp; omega) (fun x hx => (I.out.own.lt x hx).1))
        have I4 := hid (OutInv.step (x := ((kd, ta, tx, nm) : MTok)) tokRow_keep I.out hsz B3 rfl rfl hown4 hgrow (by simpa using hat))
        have HBW4 := hid hbw4
        clear hown4 hgrow hat B3 hbw4
        go_wp2_with fail
        go_roundg (s.size - k)
        case measure => omega
        case rel => exact ⟨k, rows ++ [_], acc ++ [_], by omega, by omega, by go_num, by simp; omega, HBW4.out, (by show OutInv _ _ _ _ _ _ _ _ _; simpa using I4.out), HLN.out⟩
    · have hlti : ¬ (i : Int) < (s.size : Int) := by omega
      have HEND : Hid (left s 0 [] = .ok acc) := HL.out.trans (left_end acc hlt)
      go_wp2_with fail
      rw [HEND.out]
      exact bodyPost_ret (v := .tuple #[u5, .int .i64 0, .int .i64 0]) (by simp [results, Tryd.results10, go_sem]) rfl ⟨⟨_, rfl, OutInv.rows_in (bytes := 40) tokRow_keep I.out (by omega)⟩, BW.out⟩

/-- A text that is too long. -/
theorem refScan_long (s : ByteArray) (w : World) (hs : 20000 < s.size) :
    Calls Tryd.prog 11 #[.string s] w fun e w' => RefPost w (.error (0, 4)) e w' ∧ Below w.heap.size w w' := by
  have hsd : decide ((20000 : Int) < (s.size : Int)) = true := by simp; omega
  have hsi : (20000 : Int) < (s.size : Int) := by omega
  go_enter Tryd.func11, Tryd.ntmps11
  go_wp2
  exact bodyPost_ret (v := .tuple #[.slice none 0 0, .int .i64 0, .int .i64 4]) (by simp [results, Tryd.results10, go_sem]) rfl ⟨rfl, Below.refl _ _⟩

theorem scan_long (s : ByteArray) (w : World) (hs : 20000 < s.size) :
    Calls Tryd.prog 9 #[.string s] w fun e w' => ScanPost w (.error (0, 4)) e w' ∧ Below w.heap.size w w' := by
  have hsi : (20000 : Int) < (s.size : Int) := by omega
  go_enter Tryd.func9, Tryd.ntmps9
  go_wp2
  go_step3
  go_wp2
  first | rw [Exit.noGoto_ret] | skip
  exact bodyPost_ret (v := .tuple #[.slice none 0 0, .iface 46 (.agg #[.int .i64 0, .int .i64 4])]) (by simp [results, Tryd.results9, go_sem]) rfl ⟨rfl, Below.refl _ _⟩
end Go.Proofs.YtebohmcbeacdkaaDoor
