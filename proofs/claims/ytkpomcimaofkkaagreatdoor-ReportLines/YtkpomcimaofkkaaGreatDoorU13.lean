/-
  Walk of the scanner's Scan.
-/
import Derived.Test.YtkpomcimaofkkaaGreatDoorU12
import Derived.Test.YtkpomcimaofkkaaGreatDoorU5
import Derived.WalkMore
import Derived.Deep.QuietTactic
import Derived.BigQuiet
namespace Go.Proofs.YtkpomcimaofkkaaGreatDoor
set_option linter.unusedVariables false
set_option linter.unusedSimpArgs false
open Go.RowKit

theorem below_drewN {B : Nat} {w w' : World} (h : Below B w w') (q : Nat) : Below B w (w'.drewN q) := ⟨h.os, h.tape, h.output, h.size, h.block⟩

/-- A token's four cells. -/
def TokRow (_ : Nat → Prop) (_ : World) (cs : List Value) (t : MTok) : Prop := cs = [.int .i64 t.1, .int .i64 t.2.1, .string t.2.2.1, .int .i64 t.2.2.2]
theorem tokRow_keep (S T : Nat → Prop) (w w' : World) (cs : List Value) (x : MTok) (h : TokRow S w cs x) (_ : KeepsIn S w w') (_ : ∀ b, b < w.heap.size → S b → T b) : TokRow T w' cs x := h
theorem Tryz.infoTok : (Tryz.prog.info? 61).map (fun i => (i.zero, i.size, i.bytes)) = some (some (.agg #[.int .i64 0, .int .i64 0, .string ByteArray.empty, .int .i64 0]), 4, 40) := by kernel_rfl

def ToksIn (S : Nat → Prop) (w : World) (v : Value) (l : List MTok) : Prop := RowsIn 4 40 (TokRow S w) S w v l

/-- A world in which the token's box lies, and all older blocks as they were. -/
structure Box (wr W : World) (kd i nm : Int) : Prop where
  below : Below wr.heap.size wr W
  size : wr.heap.size + 1 ≤ W.heap.size
  c0 : W.cell? ⟨wr.heap.size, 0, none⟩ = some (.int .i64 kd)
  c1 : W.cell? ⟨wr.heap.size, 1, none⟩ = some (.int .i64 i)
  c2 : W.cell? ⟨wr.heap.size, 2, none⟩ = some (.string ByteArray.empty)
  c3 : W.cell? ⟨wr.heap.size, 3, none⟩ = some (.int .i64 nm)
  z2 : W.frozen? ⟨wr.heap.size, 2, none⟩ = false
  z3 : W.frozen? ⟨wr.heap.size, 3, none⟩ = false

theorem Box.later {wr W W' : World} {kd i nm : Int} (h : Box wr W kd i nm) (hb : Below W.heap.size W W') : Box wr W' kd i nm :=
  have hl : wr.heap.size < W.heap.size := h.size
  ⟨h.below.trans (hb.mono (by omega)), Nat.le_trans h.size hb.size, (hb.cell (p := ⟨wr.heap.size, 0, none⟩) hl).trans h.c0, (hb.cell (p := ⟨wr.heap.size, 1, none⟩) hl).trans h.c1, (hb.cell (p := ⟨wr.heap.size, 2, none⟩) hl).trans h.c2, (hb.cell (p := ⟨wr.heap.size, 3, none⟩) hl).trans h.c3, (hb.frozen (p := ⟨wr.heap.size, 2, none⟩) hl).trans h.z2, (hb.frozen (p := ⟨wr.heap.size, 3, none⟩) hl).trans h.z3⟩

theorem Box.new (wr : World) (kd i nm : Int) : Box wr (wr.alloc (.cells #[.int .i64 kd, .int .i64 i, .string ByteArray.empty, .int .i64 nm] 61)) kd i nm :=
  ⟨(Below.refl _ wr).alloc (Nat.le_refl _) _, by simp, by simp, by simp, by simp, by simp, by simp, by simp⟩

theorem numM_err {s : ByteArray} {i a y : Nat} (h : numM s i = .error (a, y)) : ((y : Int) != 0) = true := by
  unfold numM at h
  split at h
  · cases h; rfl
  · split at h
    · cases h; rfl
    · split at h
      · cases h; rfl
      · cases h

/-- A number, whatever it is. -/
theorem number_any (s : ByteArray) (i : Nat) (W : World) (hs : s.size ≤ 20000) (hi : i < s.size) (h : bt s i = 45 ∨ isDg (bt s i) = true) (te : TypeId) (pe : Value) (hv : W.cell? ⟨6, 0, none⟩ = some (.iface te pe)) :
    Calls Tryz.prog 55 #[.string s, .int .i64 i] W fun e w' => e = .returned (numVal (numM s i)) ∧ Below W.heap.size W w' := by
  by_cases h45 : bt s i = 45
  · by_cases hb : nBad s i
    · exact number_bad s i W hs hi hb
    · exact number_neg s i W hs hi h45 hb te pe hv
  · exact number_pos s i W hs hi h45 (by rcases h with h | h; exact absurd h h45; exact h) te pe hv

theorem left_good {s : ByteArray} {i k : Nat} {acc : List MTok} {t : MTok} (HL : left s 0 [] = left s i acc) (h : i < s.size) (hb : ¬ bt s i = 32) (ht : tokM s i = .ok (t, k)) : left s 0 [] = left s k (acc ++ [t]) := HL.trans (left_tok acc h hb ht)

/-- A slice whose length is within its capacity. -/
def Roomy (v : Value) : Prop := ∃ a n c, v = .slice a n c ∧ n ≤ c
theorem owns_roomy {w : World} {base e size n : Nat} {v : Value} {xs : List Value} (h : w.ownsRow base e size v n xs) : Roomy v := by
  rcases h.2 with ⟨rfl, _⟩ | ⟨g, cap, cur, rfl, _, _, hc, _⟩
  · exact ⟨_, _, _, rfl, Nat.le_refl _⟩
  · exact ⟨_, _, _, rfl, hc⟩

/-- What Scan answers. -/
def ScanPost (w : World) (r : Except (Nat × Nat) (List MTok)) (e : Ending) (w' : World) : Prop :=
  match r with
  | .ok l => ∃ v, e = .returned (.tuple #[v, .nilIface]) ∧ ToksIn (fun b => w.heap.size ≤ b) w' v l ∧ Roomy v
  | .error (a, y) => e = .returned (.tuple #[.slice none 0 0, .iface 49 (.agg #[.int .i64 a, .int .i64 y])])

set_option maxRecDepth 100000 in
set_option maxHeartbeats 8000000 in
theorem scan_walk (s : ByteArray) (w : World) (hs : s.size ≤ 20000) (te : TypeId) (pe : Value) (hv : w.cell? ⟨6, 0, none⟩ = some (.iface te pe)) :
    Calls Tryz.prog 16 #[.string s] w fun e w' => ScanPost w (left s 0 []) e w' ∧ Below w.heap.size w w' := by
  obtain ⟨i0, hi0, hz0, hz1, hz2⟩ := info_parts Tryz.infoTok
  have hsd : decide ((20000 : Int) < (s.size : Int)) = false := by simp; omega
  have HV := hid hv
  have h4 : 6 < w.heap.size := World.block_lt_of_cell? _ _ hv
  clear hv
  go_enter Tryz.func16, Tryz.ntmps16
  go_wp2
  go_step3
  go_wp2
  go_step3
  go_wp2
  go_loopg [4, 6, 7, 8, 9] s.size (fun g v at_ _ _ _ wr => ∃ (i : Nat) (rows : List (List Value)) (acc : List MTok), i ≤ s.size ∧ s.size - i ≤ g ∧ at_ = .int .i64 i ∧ acc.length ≤ i ∧ Aside (Below (w.heap.size + 1) (w.alloc (.cells #[.int .i64 0, .int .i64 0] 49)) wr) ∧ Aside (OutInv 61 4 TokRow (w.heap.size + 1) wr v acc.length rows acc) ∧ Aside (left s 0 [] = left s i acc))
  case atStart => exact ⟨0, [], [], Nat.zero_le _, by omega, rfl, Nat.le_refl _, Below.refl _ _, OutInv.nil _ _ _ _ _, rfl⟩
  case round =>
    obtain ⟨i, rows, acc, hi, hg, rfl, hacc, BW, I, HL⟩ := hrel
    have hsz : w.heap.size + 1 ≤ wr.heap.size := by have := BW.out.size; simpa using this
    have f0 : wr.cell? ⟨w.heap.size, 0, none⟩ = some (.int .i64 0) := (BW.out.cell (p := ⟨w.heap.size, 0, none⟩) (by simp)).trans (by simp)
    have f1 : wr.cell? ⟨w.heap.size, 1, none⟩ = some (.int .i64 0) := (BW.out.cell (p := ⟨w.heap.size, 1, none⟩) (by simp)).trans (by simp)
    have z0 : wr.frozen? ⟨w.heap.size, 0, none⟩ = false := (BW.out.frozen (p := ⟨w.heap.size, 0, none⟩) (by simp)).trans (by simp)
    have z1 : wr.frozen? ⟨w.heap.size, 1, none⟩ = false := (BW.out.frozen (p := ⟨w.heap.size, 1, none⟩) (by simp)).trans (by simp)
    by_cases hlt : i < s.size
    · have hlti : (i : Int) < (s.size : Int) := by omega
      by_cases hnb : bt s i = 32
      · have HT : Hid (left s 0 [] = left s (i + 1) acc) := HL.out.trans (left_blank acc hlt hnb)
        have q32 : ((((s[i]'hlt).toNat : Nat) : Int) == 32) = true := by rw [bt_get hlt, hnb]; rfl
        clear hnb
        go_wp2_with fail
        go_roundg (s.size - (i + 1))
        case measure => omega
        case rel => exact ⟨i + 1, rows, acc, by omega, by omega, by go_num, by omega, BW.out.alloc hsz _, (show OutInv _ _ _ _ _ _ _ _ _ from I.out.later tokRow_keep ((Below.refl _ wr).alloc (Nat.le_refl _) _)), HT.out⟩
      cases hsm : isSm (bt s i) with
      | true =>
        have hsmv := isSm_iff.1 hsm
        have q32 : ((((s[i]'hlt).toNat : Nat) : Int) == 32) = false := beq_eq_false_iff_ne.2 (by rw [bt_get hlt]; omega)
        have r0 : isSm (s[i]'hlt).toNat = true := by rw [bt_get hlt]; exact hsm
        have HTK : Hid (tokM s i = .ok (((1 : Int), (i : Int), s.extract i (wEnd s i), (0 : Int)), wEnd s i)) := by
          show tokM s i = _
          unfold tokM; rw [if_pos hsm]
        have hE := tokM_gt HTK.out hlt
        have hE1 : (i : Int) ≤ ((wEnd s i : Nat) : Int) := by omega
        have hE2 : ((wEnd s i : Nat) : Int) ≤ (s.size : Int) := by omega
        have HNB := hid hnb
        clear hnb
        have GB := hid (Box.new wr (1) i (0))
        go_wp2_with (first | (go_at_call 52; refine (isSmall_any _ _).mono ?_; rintro e w' ⟨rfl, rfl⟩) | (go_at_call 54; refine (isDigit_any _ _).mono ?_; rintro e w' ⟨rfl, rfl⟩) | (go_at_call 53; refine (wordEnd_any _ _ _ (by omega)).mono ?_; rintro e w' ⟨rfl, rfl⟩))
        have hext : (s.extract i (wEnd s i)).size ≤ 281474976710656 := by simp; omega
        refine (clone_any _ _ hext).mono ?_
        rintro e' w2 ⟨rfl, hb2⟩
        have G2 := GB.out.later hb2
        have hs2 := G2.size
        have g0 := G2.c0
        have g1 := G2.c1
        have g2 := G2.c2
        have g3 := G2.c3
        have zz2 := G2.z2
        have HG2 := hid G2
        clear G2 hb2 hext
        go_wp2_with (at_builtin; refine wpList_append_lies _ rfl _ _ 44 rfl (w.heap.size + 1) 61 i0 _ 4 40 Tryz.underlying44 hi0 hz0 hz1 hz2 rfl (by decide) u4 acc.length rows.flatten rfl ?hown ⟨w2.heap.size, 0, none⟩ 1 1 [.int .i64 (1), .int .i64 i, .string (s.extract i (wEnd s i)), .int .i64 (0)] rfl rfl ?hnews ?hone (by decide) ?h63 ?hby ?hbase (w2.heap.size + 1) ?hH ?_)
        case hown => exact I.out.own3 ((HG2.out.below.setCell (Nat.le_refl _) _).alloc (by simp [World.setCell]; omega) _)
        case hnews => exact World.news_of_block (by simpa [World.setCell] using heap_alloc_new (w2.setCell ⟨wr.heap.size, 2, none⟩ (.string (s.extract i (wEnd s i)))) (.cells #[.int .i64 (1), .int .i64 i, .string (s.extract i (wEnd s i)), .int .i64 (0)] 61))
        case hone => intro u hu; simp at hu; rcases hu with rfl | rfl | rfl | rfl <;> rfl
        case h63 => unfold maxLen; omega
        case hby => omega
        case hbase => simp [World.setCell]; omega
        case hH => simp [World.setCell]
        intro g cap w4 hown4 hgrow hat hglt
        have B3 : Below wr.heap.size wr ((w2.setCell ⟨wr.heap.size, 2, none⟩ (.string (s.extract i (wEnd s i)))).alloc (.cells #[.int .i64 (1), .int .i64 i, .string (s.extract i (wEnd s i)), .int .i64 (0)] 61)) := (HG2.out.below.setCell (Nat.le_refl _) _).alloc (by simp [World.setCell]; omega) _
        have hbw4 : Below (w.heap.size + 1) (w.alloc (.cells #[.int .i64 0, .int .i64 0] 49)) w4 := BW.out.trans ((B3.mono hsz).grown hgrow (by simp [World.setCell]; omega) (fun x hx => (I.out.own.lt x hx).1))
        have I4 := hid (OutInv.step (x := (((1 : Int), (i : Int), s.extract i (wEnd s i), (0 : Int)) : MTok)) tokRow_keep I.out hsz B3 rfl rfl hown4 hgrow (by simpa [World.setCell] using hat))
        have HBW4 := hid hbw4
        clear hown4 hgrow hat B3 hbw4 g0 g1 g2 g3 zz2
        go_wp2_with fail
        go_roundg (s.size - (wEnd s i))
        case measure => omega
        case rel => exact ⟨wEnd s i, rows ++ [_], acc ++ [_], by omega, by omega, by go_num, by simp; omega, HBW4.out, (by show OutInv _ _ _ _ _ _ _ _ _; simpa using I4.out), left_good HL.out hlt HNB.out HTK.out⟩
      | false =>
        have hsmv := isSm_no.1 hsm
        by_cases h45 : bt s i = 45
        · have hnum : bt s i = 45 ∨ isDg (bt s i) = true := .inl h45
          have q32 : ((((s[i]'hlt).toNat : Nat) : Int) == 32) = false := beq_eq_false_iff_ne.2 (by rw [bt_get hlt]; omega)
          have r0 : isSm (s[i]'hlt).toNat = false := by rw [bt_get hlt]; exact hsm
          have q45 : ((((s[i]'hlt).toNat : Nat) : Int) == 45) = true := beq_iff_eq.2 (by rw [bt_get hlt, h45]; rfl)
          have hnc := number_any s i (wr.alloc (.cells #[.int .i64 2, .int .i64 i, .string ByteArray.empty, .int .i64 0] 61)) hs hlt hnum te pe (Lib.cell?_alloc_some _ ((BW.out.cell (p := ⟨6, 0, none⟩) (by simp; omega)).trans (Lib.cell?_alloc_some _ HV.out)))
          cases hN : numM s i with
          | ok q =>
            obtain ⟨n, e⟩ := q
            have HTK : Hid (tokM s i = .ok (((2 : Int), (i : Int), s.extract i e, n), e)) := by
              show tokM s i = _
              unfold tokM; rw [if_neg (by simp [hsm]), if_pos hnum, hN]
            have hE := numM_gt hN hlt
            have HNB := hid hnb
            have hE1 : (i : Int) ≤ (e : Int) := by omega
            have hE2 : (e : Int) ≤ (s.size : Int) := by omega
            rw [hN] at hnc
            simp only [numVal] at hnc
            have HC := hid hnc
            clear hnb hN hnc
            go_wp2_with (first | (go_at_call 52; refine (isSmall_any _ _).mono ?_; rintro e w' ⟨rfl, rfl⟩) | (go_at_call 54; refine (isDigit_any _ _).mono ?_; rintro e w' ⟨rfl, rfl⟩))
            refine HC.out.mono ?_
            rintro e' w1 ⟨rfl, hb1⟩
            have G1 := (Box.new wr 2 i 0).later hb1
            have hs1 := G1.size
            have g3 := G1.c3
            have zg3 := G1.z3
            have k0 : w1.cell? ⟨w.heap.size, 0, none⟩ = some (.int .i64 0) := (G1.below.cell (p := ⟨w.heap.size, 0, none⟩) hsz).trans f0
            have k1 : w1.cell? ⟨w.heap.size, 1, none⟩ = some (.int .i64 0) := (G1.below.cell (p := ⟨w.heap.size, 1, none⟩) hsz).trans f1
            have zk0 : w1.frozen? ⟨w.heap.size, 0, none⟩ = false := (G1.below.frozen (p := ⟨w.heap.size, 0, none⟩) hsz).trans z0
            have zk1 : w1.frozen? ⟨w.heap.size, 1, none⟩ = false := (G1.below.frozen (p := ⟨w.heap.size, 1, none⟩) hsz).trans z1
            have hneF : w.heap.size ≠ wr.heap.size := by omega
            have hneF' : wr.heap.size ≠ w.heap.size := by omega
            have GB : Hid (Box wr (((w1.setCell ⟨wr.heap.size, 3, none⟩ (.int .i64 n)).setCell ⟨w.heap.size, 0, none⟩ (.int .i64 0)).setCell ⟨w.heap.size, 1, none⟩ (.int .i64 0)) 2 i n) := by
              have k0' : (w1.setCell ⟨wr.heap.size, 3, none⟩ (.int .i64 n)).cell? ⟨w.heap.size, 0, none⟩ = some (.int .i64 0) := by exact (World.cell?_setCell_other _ _ _ _ (fun h => by injection h; omega)).trans k0
              have k1' : (w1.setCell ⟨wr.heap.size, 3, none⟩ (.int .i64 n)).cell? ⟨w.heap.size, 1, none⟩ = some (.int .i64 0) := by exact (World.cell?_setCell_other _ _ _ _ (fun h => by injection h; omega)).trans k1
              rw [setCell_self k0', setCell_self k1']
              exact ⟨G1.below.setCell (Nat.le_refl _) _, by simp [World.setCell]; exact hs1, (World.cell?_setCell_other _ _ _ _ (by simp)).trans G1.c0, (World.cell?_setCell_other _ _ _ _ (by simp)).trans G1.c1, (World.cell?_setCell_other _ _ _ _ (by simp)).trans G1.c2, World.cell?_setCell_same _ _ _ G1.c3, (World.frozen?_setCell _ _ _ _).trans G1.z2, (World.frozen?_setCell _ _ _ _).trans G1.z3⟩
            clear hb1 G1
            go_wp2_with fail
            have hext : (s.extract i (e)).size ≤ 281474976710656 := by simp; omega
            refine (clone_any _ _ hext).mono ?_
            rintro e' w2 ⟨rfl, hb2⟩
            have G2 := GB.out.later hb2
            have hs2 := G2.size
            have g0 := G2.c0
            have g1 := G2.c1
            have g2 := G2.c2
            have g3 := G2.c3
            have zz2 := G2.z2
            have HG2 := hid G2
            clear G2 hb2 hext
            go_wp2_with (at_builtin; refine wpList_append_lies _ rfl _ _ 44 rfl (w.heap.size + 1) 61 i0 _ 4 40 Tryz.underlying44 hi0 hz0 hz1 hz2 rfl (by decide) u4 acc.length rows.flatten rfl ?hown ⟨w2.heap.size, 0, none⟩ 1 1 [.int .i64 (2), .int .i64 i, .string (s.extract i (e)), .int .i64 (n)] rfl rfl ?hnews ?hone (by decide) ?h63 ?hby ?hbase (w2.heap.size + 1) ?hH ?_)
            case hown => exact I.out.own3 ((HG2.out.below.setCell (Nat.le_refl _) _).alloc (by simp [World.setCell]; omega) _)
            case hnews => exact World.news_of_block (by simpa [World.setCell] using heap_alloc_new (w2.setCell ⟨wr.heap.size, 2, none⟩ (.string (s.extract i (e)))) (.cells #[.int .i64 (2), .int .i64 i, .string (s.extract i (e)), .int .i64 (n)] 61))
            case hone => intro u hu; simp at hu; rcases hu with rfl | rfl | rfl | rfl <;> rfl
            case h63 => unfold maxLen; omega
            case hby => omega
            case hbase => simp [World.setCell]; omega
            case hH => simp [World.setCell]
            intro g cap w4 hown4 hgrow hat hglt
            have B3 : Below wr.heap.size wr ((w2.setCell ⟨wr.heap.size, 2, none⟩ (.string (s.extract i (e)))).alloc (.cells #[.int .i64 (2), .int .i64 i, .string (s.extract i (e)), .int .i64 (n)] 61)) := (HG2.out.below.setCell (Nat.le_refl _) _).alloc (by simp [World.setCell]; omega) _
            have hbw4 : Below (w.heap.size + 1) (w.alloc (.cells #[.int .i64 0, .int .i64 0] 49)) w4 := BW.out.trans ((B3.mono hsz).grown hgrow (by simp [World.setCell]; omega) (fun x hx => (I.out.own.lt x hx).1))
            have I4 := hid (OutInv.step (x := (((2 : Int), (i : Int), s.extract i (e), (n : Int)) : MTok)) tokRow_keep I.out hsz B3 rfl rfl hown4 hgrow (by simpa [World.setCell] using hat))
            have HBW4 := hid hbw4
            clear hown4 hgrow hat B3 hbw4 g0 g1 g2 g3 zz2
            go_wp2_with fail
            go_roundg (s.size - (e))
            case measure => omega
            case rel => exact ⟨e, rows ++ [_], acc ++ [_], by omega, by omega, by go_num, by simp; omega, HBW4.out, (by show OutInv _ _ _ _ _ _ _ _ _; simpa using I4.out), left_good HL.out hlt HNB.out HTK.out⟩
          | error q =>
            obtain ⟨a, y⟩ := q
            have HTK : Hid (tokM s i = .error (a, y)) := by
              show tokM s i = _
              unfold tokM; rw [if_neg (by simp [hsm]), if_pos hnum, hN]
            have HEND : Hid (left s 0 [] = .error (a, y)) := HL.out.trans (left_bad acc hlt hnb HTK.out)
            have hy := numM_err hN
            rw [hN] at hnc
            simp only [numVal] at hnc
            have HC := hid hnc
            clear hnb hN hnc
            go_wp2_with (first | (go_at_call 52; refine (isSmall_any _ _).mono ?_; rintro e w' ⟨rfl, rfl⟩) | (go_at_call 54; refine (isDigit_any _ _).mono ?_; rintro e w' ⟨rfl, rfl⟩))
            refine HC.out.mono ?_
            rintro e' w1 ⟨rfl, hb1⟩
            have G1 := (Box.new wr 2 i 0).later hb1
            have hs1 := G1.size
            have g3 := G1.c3
            have zg3 := G1.z3
            have k0 : w1.cell? ⟨w.heap.size, 0, none⟩ = some (.int .i64 0) := (G1.below.cell (p := ⟨w.heap.size, 0, none⟩) hsz).trans f0
            have k1 : w1.cell? ⟨w.heap.size, 1, none⟩ = some (.int .i64 0) := (G1.below.cell (p := ⟨w.heap.size, 1, none⟩) hsz).trans f1
            have zk0 : w1.frozen? ⟨w.heap.size, 0, none⟩ = false := (G1.below.frozen (p := ⟨w.heap.size, 0, none⟩) hsz).trans z0
            have zk1 : w1.frozen? ⟨w.heap.size, 1, none⟩ = false := (G1.below.frozen (p := ⟨w.heap.size, 1, none⟩) hsz).trans z1
            have hneF : w.heap.size ≠ wr.heap.size := by omega
            have hneF' : wr.heap.size ≠ w.heap.size := by omega
            have HB1 : Hid (Below w.heap.size w w1) := (((Below.refl _ w).alloc (Nat.le_refl _) _).trans (BW.out.mono (by omega))).trans (G1.below.mono (by omega))
            clear hb1 G1
            go_wp2_with fail
            go_quiet (fail)
            go_wp2_with fail
            rw [Exit.noGoto_ret]
            go_ret2
            refine ⟨?_, ?_⟩
            · rw [HEND.out]; exact rfl
            · exact below_drewN (((HB1.out.setCell (p := ⟨wr.heap.size, 3, none⟩) (Nat.le_of_succ_le hsz) _).setCell (Nat.le_refl _) _).setCell (Nat.le_refl _) _) _
        cases hdg : isDg (bt s i) with
        | true =>
          have hdgv := isDg_iff.1 hdg
          have hnum : bt s i = 45 ∨ isDg (bt s i) = true := .inr hdg
          have q32 : ((((s[i]'hlt).toNat : Nat) : Int) == 32) = false := beq_eq_false_iff_ne.2 (by rw [bt_get hlt]; omega)
          have r0 : isSm (s[i]'hlt).toNat = false := by rw [bt_get hlt]; exact hsm
          have q45 : ((((s[i]'hlt).toNat : Nat) : Int) == 45) = false := beq_eq_false_iff_ne.2 (by rw [bt_get hlt]; omega)
          have r1 : isDg (s[i]'hlt).toNat = true := by rw [bt_get hlt]; exact hdg
          have hnc := number_any s i (wr.alloc (.cells #[.int .i64 2, .int .i64 i, .string ByteArray.empty, .int .i64 0] 61)) hs hlt hnum te pe (Lib.cell?_alloc_some _ ((BW.out.cell (p := ⟨6, 0, none⟩) (by simp; omega)).trans (Lib.cell?_alloc_some _ HV.out)))
          cases hN : numM s i with
          | ok q =>
            obtain ⟨n, e⟩ := q
            have HTK : Hid (tokM s i = .ok (((2 : Int), (i : Int), s.extract i e, n), e)) := by
              show tokM s i = _
              unfold tokM; rw [if_neg (by simp [hsm]), if_pos hnum, hN]
            have hE := numM_gt hN hlt
            have HNB := hid hnb
            have hE1 : (i : Int) ≤ (e : Int) := by omega
            have hE2 : (e : Int) ≤ (s.size : Int) := by omega
            rw [hN] at hnc
            simp only [numVal] at hnc
            have HC := hid hnc
            clear hnb hN hnc
            go_wp2_with (first | (go_at_call 52; refine (isSmall_any _ _).mono ?_; rintro e w' ⟨rfl, rfl⟩) | (go_at_call 54; refine (isDigit_any _ _).mono ?_; rintro e w' ⟨rfl, rfl⟩))
            refine HC.out.mono ?_
            rintro e' w1 ⟨rfl, hb1⟩
            have G1 := (Box.new wr 2 i 0).later hb1
            have hs1 := G1.size
            have g3 := G1.c3
            have zg3 := G1.z3
            have k0 : w1.cell? ⟨w.heap.size, 0, none⟩ = some (.int .i64 0) := (G1.below.cell (p := ⟨w.heap.size, 0, none⟩) hsz).trans f0
            have k1 : w1.cell? ⟨w.heap.size, 1, none⟩ = some (.int .i64 0) := (G1.below.cell (p := ⟨w.heap.size, 1, none⟩) hsz).trans f1
            have zk0 : w1.frozen? ⟨w.heap.size, 0, none⟩ = false := (G1.below.frozen (p := ⟨w.heap.size, 0, none⟩) hsz).trans z0
            have zk1 : w1.frozen? ⟨w.heap.size, 1, none⟩ = false := (G1.below.frozen (p := ⟨w.heap.size, 1, none⟩) hsz).trans z1
            have hneF : w.heap.size ≠ wr.heap.size := by omega
            have hneF' : wr.heap.size ≠ w.heap.size := by omega
            have GB : Hid (Box wr (((w1.setCell ⟨wr.heap.size, 3, none⟩ (.int .i64 n)).setCell ⟨w.heap.size, 0, none⟩ (.int .i64 0)).setCell ⟨w.heap.size, 1, none⟩ (.int .i64 0)) 2 i n) := by
              have k0' : (w1.setCell ⟨wr.heap.size, 3, none⟩ (.int .i64 n)).cell? ⟨w.heap.size, 0, none⟩ = some (.int .i64 0) := by exact (World.cell?_setCell_other _ _ _ _ (fun h => by injection h; omega)).trans k0
              have k1' : (w1.setCell ⟨wr.heap.size, 3, none⟩ (.int .i64 n)).cell? ⟨w.heap.size, 1, none⟩ = some (.int .i64 0) := by exact (World.cell?_setCell_other _ _ _ _ (fun h => by injection h; omega)).trans k1
              rw [setCell_self k0', setCell_self k1']
              exact ⟨G1.below.setCell (Nat.le_refl _) _, by simp [World.setCell]; exact hs1, (World.cell?_setCell_other _ _ _ _ (by simp)).trans G1.c0, (World.cell?_setCell_other _ _ _ _ (by simp)).trans G1.c1, (World.cell?_setCell_other _ _ _ _ (by simp)).trans G1.c2, World.cell?_setCell_same _ _ _ G1.c3, (World.frozen?_setCell _ _ _ _).trans G1.z2, (World.frozen?_setCell _ _ _ _).trans G1.z3⟩
            clear hb1 G1
            go_wp2_with fail
            have hext : (s.extract i (e)).size ≤ 281474976710656 := by simp; omega
            refine (clone_any _ _ hext).mono ?_
            rintro e' w2 ⟨rfl, hb2⟩
            have G2 := GB.out.later hb2
            have hs2 := G2.size
            have g0 := G2.c0
            have g1 := G2.c1
            have g2 := G2.c2
            have g3 := G2.c3
            have zz2 := G2.z2
            have HG2 := hid G2
            clear G2 hb2 hext
            go_wp2_with (at_builtin; refine wpList_append_lies _ rfl _ _ 44 rfl (w.heap.size + 1) 61 i0 _ 4 40 Tryz.underlying44 hi0 hz0 hz1 hz2 rfl (by decide) u4 acc.length rows.flatten rfl ?hown ⟨w2.heap.size, 0, none⟩ 1 1 [.int .i64 (2), .int .i64 i, .string (s.extract i (e)), .int .i64 (n)] rfl rfl ?hnews ?hone (by decide) ?h63 ?hby ?hbase (w2.heap.size + 1) ?hH ?_)
            case hown => exact I.out.own3 ((HG2.out.below.setCell (Nat.le_refl _) _).alloc (by simp [World.setCell]; omega) _)
            case hnews => exact World.news_of_block (by simpa [World.setCell] using heap_alloc_new (w2.setCell ⟨wr.heap.size, 2, none⟩ (.string (s.extract i (e)))) (.cells #[.int .i64 (2), .int .i64 i, .string (s.extract i (e)), .int .i64 (n)] 61))
            case hone => intro u hu; simp at hu; rcases hu with rfl | rfl | rfl | rfl <;> rfl
            case h63 => unfold maxLen; omega
            case hby => omega
            case hbase => simp [World.setCell]; omega
            case hH => simp [World.setCell]
            intro g cap w4 hown4 hgrow hat hglt
            have B3 : Below wr.heap.size wr ((w2.setCell ⟨wr.heap.size, 2, none⟩ (.string (s.extract i (e)))).alloc (.cells #[.int .i64 (2), .int .i64 i, .string (s.extract i (e)), .int .i64 (n)] 61)) := (HG2.out.below.setCell (Nat.le_refl _) _).alloc (by simp [World.setCell]; omega) _
            have hbw4 : Below (w.heap.size + 1) (w.alloc (.cells #[.int .i64 0, .int .i64 0] 49)) w4 := BW.out.trans ((B3.mono hsz).grown hgrow (by simp [World.setCell]; omega) (fun x hx => (I.out.own.lt x hx).1))
            have I4 := hid (OutInv.step (x := (((2 : Int), (i : Int), s.extract i (e), (n : Int)) : MTok)) tokRow_keep I.out hsz B3 rfl rfl hown4 hgrow (by simpa [World.setCell] using hat))
            have HBW4 := hid hbw4
            clear hown4 hgrow hat B3 hbw4 g0 g1 g2 g3 zz2
            go_wp2_with fail
            go_roundg (s.size - (e))
            case measure => omega
            case rel => exact ⟨e, rows ++ [_], acc ++ [_], by omega, by omega, by go_num, by simp; omega, HBW4.out, (by show OutInv _ _ _ _ _ _ _ _ _; simpa using I4.out), left_good HL.out hlt HNB.out HTK.out⟩
          | error q =>
            obtain ⟨a, y⟩ := q
            have HTK : Hid (tokM s i = .error (a, y)) := by
              show tokM s i = _
              unfold tokM; rw [if_neg (by simp [hsm]), if_pos hnum, hN]
            have HEND : Hid (left s 0 [] = .error (a, y)) := HL.out.trans (left_bad acc hlt hnb HTK.out)
            have hy := numM_err hN
            rw [hN] at hnc
            simp only [numVal] at hnc
            have HC := hid hnc
            clear hnb hN hnc
            go_wp2_with (first | (go_at_call 52; refine (isSmall_any _ _).mono ?_; rintro e w' ⟨rfl, rfl⟩) | (go_at_call 54; refine (isDigit_any _ _).mono ?_; rintro e w' ⟨rfl, rfl⟩))
            refine HC.out.mono ?_
            rintro e' w1 ⟨rfl, hb1⟩
            have G1 := (Box.new wr 2 i 0).later hb1
            have hs1 := G1.size
            have g3 := G1.c3
            have zg3 := G1.z3
            have k0 : w1.cell? ⟨w.heap.size, 0, none⟩ = some (.int .i64 0) := (G1.below.cell (p := ⟨w.heap.size, 0, none⟩) hsz).trans f0
            have k1 : w1.cell? ⟨w.heap.size, 1, none⟩ = some (.int .i64 0) := (G1.below.cell (p := ⟨w.heap.size, 1, none⟩) hsz).trans f1
            have zk0 : w1.frozen? ⟨w.heap.size, 0, none⟩ = false := (G1.below.frozen (p := ⟨w.heap.size, 0, none⟩) hsz).trans z0
            have zk1 : w1.frozen? ⟨w.heap.size, 1, none⟩ = false := (G1.below.frozen (p := ⟨w.heap.size, 1, none⟩) hsz).trans z1
            have hneF : w.heap.size ≠ wr.heap.size := by omega
            have hneF' : wr.heap.size ≠ w.heap.size := by omega
            have HB1 : Hid (Below w.heap.size w w1) := (((Below.refl _ w).alloc (Nat.le_refl _) _).trans (BW.out.mono (by omega))).trans (G1.below.mono (by omega))
            clear hb1 G1
            go_wp2_with fail
            go_quiet (fail)
            go_wp2_with fail
            rw [Exit.noGoto_ret]
            go_ret2
            refine ⟨?_, ?_⟩
            · rw [HEND.out]; exact rfl
            · exact below_drewN (((HB1.out.setCell (p := ⟨wr.heap.size, 3, none⟩) (Nat.le_of_succ_le hsz) _).setCell (Nat.le_refl _) _).setCell (Nat.le_refl _) _) _
        | false =>
          have hdgv := isDg_no.1 hdg
          by_cases hk : bt s i = 40
          · skip
            have q32 : ((((s[i]'hlt).toNat : Nat) : Int) == 32) = false := beq_eq_false_iff_ne.2 (by rw [bt_get hlt]; omega)
            have r0 : isSm (s[i]'hlt).toNat = false := by rw [bt_get hlt]; exact hsm
            have q45 : ((((s[i]'hlt).toNat : Nat) : Int) == 45) = false := beq_eq_false_iff_ne.2 (by rw [bt_get hlt]; omega)
            have r1 : isDg (s[i]'hlt).toNat = false := by rw [bt_get hlt]; exact hdg
            have q40 : ((((s[i]'hlt).toNat : Nat) : Int) == 40) = true := beq_iff_eq.2 (by rw [bt_get hlt, hk]; rfl)
            have HTK : Hid (tokM s i = .ok (((3 : Int), (i : Int), s.extract i (i + 1), (0 : Int)), i + 1)) := by
              show tokM s i = _
              unfold tokM; rw [if_neg (by simp [hsm]), if_neg (by simp [hdg]; omega), if_pos (by omega)]
            have hE1 : (i : Int) ≤ (i : Int) + 1 := by omega
            have hE2 : (i : Int) + 1 ≤ (s.size : Int) := by omega
            have HNB := hid hnb
            clear hnb
            have GB := hid (Box.new wr (3) i (0))
            go_wp2_with (first | (go_at_call 52; refine (isSmall_any _ _).mono ?_; rintro e w' ⟨rfl, rfl⟩) | (go_at_call 54; refine (isDigit_any _ _).mono ?_; rintro e w' ⟨rfl, rfl⟩))
            have hext : (s.extract i (i + 1)).size ≤ 281474976710656 := by simp; omega
            refine (clone_any _ _ hext).mono ?_
            rintro e' w2 ⟨rfl, hb2⟩
            have G2 := GB.out.later hb2
            have hs2 := G2.size
            have g0 := G2.c0
            have g1 := G2.c1
            have g2 := G2.c2
            have g3 := G2.c3
            have zz2 := G2.z2
            have HG2 := hid G2
            clear G2 hb2 hext
            go_wp2_with (at_builtin; refine wpList_append_lies _ rfl _ _ 44 rfl (w.heap.size + 1) 61 i0 _ 4 40 Tryz.underlying44 hi0 hz0 hz1 hz2 rfl (by decide) u4 acc.length rows.flatten rfl ?hown ⟨w2.heap.size, 0, none⟩ 1 1 [.int .i64 (3), .int .i64 i, .string (s.extract i (i + 1)), .int .i64 (0)] rfl rfl ?hnews ?hone (by decide) ?h63 ?hby ?hbase (w2.heap.size + 1) ?hH ?_)
            case hown => exact I.out.own3 ((HG2.out.below.setCell (Nat.le_refl _) _).alloc (by simp [World.setCell]; omega) _)
            case hnews => exact World.news_of_block (by simpa [World.setCell] using heap_alloc_new (w2.setCell ⟨wr.heap.size, 2, none⟩ (.string (s.extract i (i + 1)))) (.cells #[.int .i64 (3), .int .i64 i, .string (s.extract i (i + 1)), .int .i64 (0)] 61))
            case hone => intro u hu; simp at hu; rcases hu with rfl | rfl | rfl | rfl <;> rfl
            case h63 => unfold maxLen; omega
            case hby => omega
            case hbase => simp [World.setCell]; omega
            case hH => simp [World.setCell]
            intro g cap w4 hown4 hgrow hat hglt
            have B3 : Below wr.heap.size wr ((w2.setCell ⟨wr.heap.size, 2, none⟩ (.string (s.extract i (i + 1)))).alloc (.cells #[.int .i64 (3), .int .i64 i, .string (s.extract i (i + 1)), .int .i64 (0)] 61)) := (HG2.out.below.setCell (Nat.le_refl _) _).alloc (by simp [World.setCell]; omega) _
            have hbw4 : Below (w.heap.size + 1) (w.alloc (.cells #[.int .i64 0, .int .i64 0] 49)) w4 := BW.out.trans ((B3.mono hsz).grown hgrow (by simp [World.setCell]; omega) (fun x hx => (I.out.own.lt x hx).1))
            have I4 := hid (OutInv.step (x := (((3 : Int), (i : Int), s.extract i (i + 1), (0 : Int)) : MTok)) tokRow_keep I.out hsz B3 rfl rfl hown4 hgrow (by simpa [World.setCell] using hat))
            have HBW4 := hid hbw4
            clear hown4 hgrow hat B3 hbw4 g0 g1 g2 g3 zz2
            go_wp2_with fail
            go_roundg (s.size - (i + 1))
            case measure => omega
            case rel => exact ⟨i + 1, rows ++ [_], acc ++ [_], by omega, by omega, by go_num, by simp; omega, HBW4.out, (by show OutInv _ _ _ _ _ _ _ _ _; simpa using I4.out), left_good HL.out hlt HNB.out HTK.out⟩
          by_cases hk : bt s i = 41
          · skip
            have q32 : ((((s[i]'hlt).toNat : Nat) : Int) == 32) = false := beq_eq_false_iff_ne.2 (by rw [bt_get hlt]; omega)
            have r0 : isSm (s[i]'hlt).toNat = false := by rw [bt_get hlt]; exact hsm
            have q45 : ((((s[i]'hlt).toNat : Nat) : Int) == 45) = false := beq_eq_false_iff_ne.2 (by rw [bt_get hlt]; omega)
            have r1 : isDg (s[i]'hlt).toNat = false := by rw [bt_get hlt]; exact hdg
            have q40 : ((((s[i]'hlt).toNat : Nat) : Int) == 40) = false := beq_eq_false_iff_ne.2 (by rw [bt_get hlt]; omega)
            have q41 : ((((s[i]'hlt).toNat : Nat) : Int) == 41) = true := beq_iff_eq.2 (by rw [bt_get hlt, hk]; rfl)
            have HTK : Hid (tokM s i = .ok (((3 : Int), (i : Int), s.extract i (i + 1), (0 : Int)), i + 1)) := by
              show tokM s i = _
              unfold tokM; rw [if_neg (by simp [hsm]), if_neg (by simp [hdg]; omega), if_pos (by omega)]
            have hE1 : (i : Int) ≤ (i : Int) + 1 := by omega
            have hE2 : (i : Int) + 1 ≤ (s.size : Int) := by omega
            have HNB := hid hnb
            clear hnb
            have GB := hid (Box.new wr (3) i (0))
            go_wp2_with (first | (go_at_call 52; refine (isSmall_any _ _).mono ?_; rintro e w' ⟨rfl, rfl⟩) | (go_at_call 54; refine (isDigit_any _ _).mono ?_; rintro e w' ⟨rfl, rfl⟩))
            have hext : (s.extract i (i + 1)).size ≤ 281474976710656 := by simp; omega
            refine (clone_any _ _ hext).mono ?_
            rintro e' w2 ⟨rfl, hb2⟩
            have G2 := GB.out.later hb2
            have hs2 := G2.size
            have g0 := G2.c0
            have g1 := G2.c1
            have g2 := G2.c2
            have g3 := G2.c3
            have zz2 := G2.z2
            have HG2 := hid G2
            clear G2 hb2 hext
            go_wp2_with (at_builtin; refine wpList_append_lies _ rfl _ _ 44 rfl (w.heap.size + 1) 61 i0 _ 4 40 Tryz.underlying44 hi0 hz0 hz1 hz2 rfl (by decide) u4 acc.length rows.flatten rfl ?hown ⟨w2.heap.size, 0, none⟩ 1 1 [.int .i64 (3), .int .i64 i, .string (s.extract i (i + 1)), .int .i64 (0)] rfl rfl ?hnews ?hone (by decide) ?h63 ?hby ?hbase (w2.heap.size + 1) ?hH ?_)
            case hown => exact I.out.own3 ((HG2.out.below.setCell (Nat.le_refl _) _).alloc (by simp [World.setCell]; omega) _)
            case hnews => exact World.news_of_block (by simpa [World.setCell] using heap_alloc_new (w2.setCell ⟨wr.heap.size, 2, none⟩ (.string (s.extract i (i + 1)))) (.cells #[.int .i64 (3), .int .i64 i, .string (s.extract i (i + 1)), .int .i64 (0)] 61))
            case hone => intro u hu; simp at hu; rcases hu with rfl | rfl | rfl | rfl <;> rfl
            case h63 => unfold maxLen; omega
            case hby => omega
            case hbase => simp [World.setCell]; omega
            case hH => simp [World.setCell]
            intro g cap w4 hown4 hgrow hat hglt
            have B3 : Below wr.heap.size wr ((w2.setCell ⟨wr.heap.size, 2, none⟩ (.string (s.extract i (i + 1)))).alloc (.cells #[.int .i64 (3), .int .i64 i, .string (s.extract i (i + 1)), .int .i64 (0)] 61)) := (HG2.out.below.setCell (Nat.le_refl _) _).alloc (by simp [World.setCell]; omega) _
            have hbw4 : Below (w.heap.size + 1) (w.alloc (.cells #[.int .i64 0, .int .i64 0] 49)) w4 := BW.out.trans ((B3.mono hsz).grown hgrow (by simp [World.setCell]; omega) (fun x hx => (I.out.own.lt x hx).1))
            have I4 := hid (OutInv.step (x := (((3 : Int), (i : Int), s.extract i (i + 1), (0 : Int)) : MTok)) tokRow_keep I.out hsz B3 rfl rfl hown4 hgrow (by simpa [World.setCell] using hat))
            have HBW4 := hid hbw4
            clear hown4 hgrow hat B3 hbw4 g0 g1 g2 g3 zz2
            go_wp2_with fail
            go_roundg (s.size - (i + 1))
            case measure => omega
            case rel => exact ⟨i + 1, rows ++ [_], acc ++ [_], by omega, by omega, by go_num, by simp; omega, HBW4.out, (by show OutInv _ _ _ _ _ _ _ _ _; simpa using I4.out), left_good HL.out hlt HNB.out HTK.out⟩
          by_cases hk : bt s i = 91
          · skip
            have q32 : ((((s[i]'hlt).toNat : Nat) : Int) == 32) = false := beq_eq_false_iff_ne.2 (by rw [bt_get hlt]; omega)
            have r0 : isSm (s[i]'hlt).toNat = false := by rw [bt_get hlt]; exact hsm
            have q45 : ((((s[i]'hlt).toNat : Nat) : Int) == 45) = false := beq_eq_false_iff_ne.2 (by rw [bt_get hlt]; omega)
            have r1 : isDg (s[i]'hlt).toNat = false := by rw [bt_get hlt]; exact hdg
            have q40 : ((((s[i]'hlt).toNat : Nat) : Int) == 40) = false := beq_eq_false_iff_ne.2 (by rw [bt_get hlt]; omega)
            have q41 : ((((s[i]'hlt).toNat : Nat) : Int) == 41) = false := beq_eq_false_iff_ne.2 (by rw [bt_get hlt]; omega)
            have q91 : ((((s[i]'hlt).toNat : Nat) : Int) == 91) = true := beq_iff_eq.2 (by rw [bt_get hlt, hk]; rfl)
            have HTK : Hid (tokM s i = .ok (((3 : Int), (i : Int), s.extract i (i + 1), (0 : Int)), i + 1)) := by
              show tokM s i = _
              unfold tokM; rw [if_neg (by simp [hsm]), if_neg (by simp [hdg]; omega), if_pos (by omega)]
            have hE1 : (i : Int) ≤ (i : Int) + 1 := by omega
            have hE2 : (i : Int) + 1 ≤ (s.size : Int) := by omega
            have HNB := hid hnb
            clear hnb
            have GB := hid (Box.new wr (3) i (0))
            go_wp2_with (first | (go_at_call 52; refine (isSmall_any _ _).mono ?_; rintro e w' ⟨rfl, rfl⟩) | (go_at_call 54; refine (isDigit_any _ _).mono ?_; rintro e w' ⟨rfl, rfl⟩))
            have hext : (s.extract i (i + 1)).size ≤ 281474976710656 := by simp; omega
            refine (clone_any _ _ hext).mono ?_
            rintro e' w2 ⟨rfl, hb2⟩
            have G2 := GB.out.later hb2
            have hs2 := G2.size
            have g0 := G2.c0
            have g1 := G2.c1
            have g2 := G2.c2
            have g3 := G2.c3
            have zz2 := G2.z2
            have HG2 := hid G2
            clear G2 hb2 hext
            go_wp2_with (at_builtin; refine wpList_append_lies _ rfl _ _ 44 rfl (w.heap.size + 1) 61 i0 _ 4 40 Tryz.underlying44 hi0 hz0 hz1 hz2 rfl (by decide) u4 acc.length rows.flatten rfl ?hown ⟨w2.heap.size, 0, none⟩ 1 1 [.int .i64 (3), .int .i64 i, .string (s.extract i (i + 1)), .int .i64 (0)] rfl rfl ?hnews ?hone (by decide) ?h63 ?hby ?hbase (w2.heap.size + 1) ?hH ?_)
            case hown => exact I.out.own3 ((HG2.out.below.setCell (Nat.le_refl _) _).alloc (by simp [World.setCell]; omega) _)
            case hnews => exact World.news_of_block (by simpa [World.setCell] using heap_alloc_new (w2.setCell ⟨wr.heap.size, 2, none⟩ (.string (s.extract i (i + 1)))) (.cells #[.int .i64 (3), .int .i64 i, .string (s.extract i (i + 1)), .int .i64 (0)] 61))
            case hone => intro u hu; simp at hu; rcases hu with rfl | rfl | rfl | rfl <;> rfl
            case h63 => unfold maxLen; omega
            case hby => omega
            case hbase => simp [World.setCell]; omega
            case hH => simp [World.setCell]
            intro g cap w4 hown4 hgrow hat hglt
            have B3 : Below wr.heap.size wr ((w2.setCell ⟨wr.heap.size, 2, none⟩ (.string (s.extract i (i + 1)))).alloc (.cells #[.int .i64 (3), .int .i64 i, .string (s.extract i (i + 1)), .int .i64 (0)] 61)) := (HG2.out.below.setCell (Nat.le_refl _) _).alloc (by simp [World.setCell]; omega) _
            have hbw4 : Below (w.heap.size + 1) (w.alloc (.cells #[.int .i64 0, .int .i64 0] 49)) w4 := BW.out.trans ((B3.mono hsz).grown hgrow (by simp [World.setCell]; omega) (fun x hx => (I.out.own.lt x hx).1))
            have I4 := hid (OutInv.step (x := (((3 : Int), (i : Int), s.extract i (i + 1), (0 : Int)) : MTok)) tokRow_keep I.out hsz B3 rfl rfl hown4 hgrow (by simpa [World.setCell] using hat))
            have HBW4 := hid hbw4
            clear hown4 hgrow hat B3 hbw4 g0 g1 g2 g3 zz2
            go_wp2_with fail
            go_roundg (s.size - (i + 1))
            case measure => omega
            case rel => exact ⟨i + 1, rows ++ [_], acc ++ [_], by omega, by omega, by go_num, by simp; omega, HBW4.out, (by show OutInv _ _ _ _ _ _ _ _ _; simpa using I4.out), left_good HL.out hlt HNB.out HTK.out⟩
          by_cases hk : bt s i = 93
          · skip
            have q32 : ((((s[i]'hlt).toNat : Nat) : Int) == 32) = false := beq_eq_false_iff_ne.2 (by rw [bt_get hlt]; omega)
            have r0 : isSm (s[i]'hlt).toNat = false := by rw [bt_get hlt]; exact hsm
            have q45 : ((((s[i]'hlt).toNat : Nat) : Int) == 45) = false := beq_eq_false_iff_ne.2 (by rw [bt_get hlt]; omega)
            have r1 : isDg (s[i]'hlt).toNat = false := by rw [bt_get hlt]; exact hdg
            have q40 : ((((s[i]'hlt).toNat : Nat) : Int) == 40) = false := beq_eq_false_iff_ne.2 (by rw [bt_get hlt]; omega)
            have q41 : ((((s[i]'hlt).toNat : Nat) : Int) == 41) = false := beq_eq_false_iff_ne.2 (by rw [bt_get hlt]; omega)
            have q91 : ((((s[i]'hlt).toNat : Nat) : Int) == 91) = false := beq_eq_false_iff_ne.2 (by rw [bt_get hlt]; omega)
            have q93 : ((((s[i]'hlt).toNat : Nat) : Int) == 93) = true := beq_iff_eq.2 (by rw [bt_get hlt, hk]; rfl)
            have HTK : Hid (tokM s i = .ok (((3 : Int), (i : Int), s.extract i (i + 1), (0 : Int)), i + 1)) := by
              show tokM s i = _
              unfold tokM; rw [if_neg (by simp [hsm]), if_neg (by simp [hdg]; omega), if_pos (by omega)]
            have hE1 : (i : Int) ≤ (i : Int) + 1 := by omega
            have hE2 : (i : Int) + 1 ≤ (s.size : Int) := by omega
            have HNB := hid hnb
            clear hnb
            have GB := hid (Box.new wr (3) i (0))
            go_wp2_with (first | (go_at_call 52; refine (isSmall_any _ _).mono ?_; rintro e w' ⟨rfl, rfl⟩) | (go_at_call 54; refine (isDigit_any _ _).mono ?_; rintro e w' ⟨rfl, rfl⟩))
            have hext : (s.extract i (i + 1)).size ≤ 281474976710656 := by simp; omega
            refine (clone_any _ _ hext).mono ?_
            rintro e' w2 ⟨rfl, hb2⟩
            have G2 := GB.out.later hb2
            have hs2 := G2.size
            have g0 := G2.c0
            have g1 := G2.c1
            have g2 := G2.c2
            have g3 := G2.c3
            have zz2 := G2.z2
            have HG2 := hid G2
            clear G2 hb2 hext
            go_wp2_with (at_builtin; refine wpList_append_lies _ rfl _ _ 44 rfl (w.heap.size + 1) 61 i0 _ 4 40 Tryz.underlying44 hi0 hz0 hz1 hz2 rfl (by decide) u4 acc.length rows.flatten rfl ?hown ⟨w2.heap.size, 0, none⟩ 1 1 [.int .i64 (3), .int .i64 i, .string (s.extract i (i + 1)), .int .i64 (0)] rfl rfl ?hnews ?hone (by decide) ?h63 ?hby ?hbase (w2.heap.size + 1) ?hH ?_)
            case hown => exact I.out.own3 ((HG2.out.below.setCell (Nat.le_refl _) _).alloc (by simp [World.setCell]; omega) _)
            case hnews => exact World.news_of_block (by simpa [World.setCell] using heap_alloc_new (w2.setCell ⟨wr.heap.size, 2, none⟩ (.string (s.extract i (i + 1)))) (.cells #[.int .i64 (3), .int .i64 i, .string (s.extract i (i + 1)), .int .i64 (0)] 61))
            case hone => intro u hu; simp at hu; rcases hu with rfl | rfl | rfl | rfl <;> rfl
            case h63 => unfold maxLen; omega
            case hby => omega
            case hbase => simp [World.setCell]; omega
            case hH => simp [World.setCell]
            intro g cap w4 hown4 hgrow hat hglt
            have B3 : Below wr.heap.size wr ((w2.setCell ⟨wr.heap.size, 2, none⟩ (.string (s.extract i (i + 1)))).alloc (.cells #[.int .i64 (3), .int .i64 i, .string (s.extract i (i + 1)), .int .i64 (0)] 61)) := (HG2.out.below.setCell (Nat.le_refl _) _).alloc (by simp [World.setCell]; omega) _
            have hbw4 : Below (w.heap.size + 1) (w.alloc (.cells #[.int .i64 0, .int .i64 0] 49)) w4 := BW.out.trans ((B3.mono hsz).grown hgrow (by simp [World.setCell]; omega) (fun x hx => (I.out.own.lt x hx).1))
            have I4 := hid (OutInv.step (x := (((3 : Int), (i : Int), s.extract i (i + 1), (0 : Int)) : MTok)) tokRow_keep I.out hsz B3 rfl rfl hown4 hgrow (by simpa [World.setCell] using hat))
            have HBW4 := hid hbw4
            clear hown4 hgrow hat B3 hbw4 g0 g1 g2 g3 zz2
            go_wp2_with fail
            go_roundg (s.size - (i + 1))
            case measure => omega
            case rel => exact ⟨i + 1, rows ++ [_], acc ++ [_], by omega, by omega, by go_num, by simp; omega, HBW4.out, (by show OutInv _ _ _ _ _ _ _ _ _; simpa using I4.out), left_good HL.out hlt HNB.out HTK.out⟩
          by_cases hk : bt s i = 10
          · skip
            have q32 : ((((s[i]'hlt).toNat : Nat) : Int) == 32) = false := beq_eq_false_iff_ne.2 (by rw [bt_get hlt]; omega)
            have r0 : isSm (s[i]'hlt).toNat = false := by rw [bt_get hlt]; exact hsm
            have q45 : ((((s[i]'hlt).toNat : Nat) : Int) == 45) = false := beq_eq_false_iff_ne.2 (by rw [bt_get hlt]; omega)
            have r1 : isDg (s[i]'hlt).toNat = false := by rw [bt_get hlt]; exact hdg
            have q40 : ((((s[i]'hlt).toNat : Nat) : Int) == 40) = false := beq_eq_false_iff_ne.2 (by rw [bt_get hlt]; omega)
            have q41 : ((((s[i]'hlt).toNat : Nat) : Int) == 41) = false := beq_eq_false_iff_ne.2 (by rw [bt_get hlt]; omega)
            have q91 : ((((s[i]'hlt).toNat : Nat) : Int) == 91) = false := beq_eq_false_iff_ne.2 (by rw [bt_get hlt]; omega)
            have q93 : ((((s[i]'hlt).toNat : Nat) : Int) == 93) = false := beq_eq_false_iff_ne.2 (by rw [bt_get hlt]; omega)
            have q10 : ((((s[i]'hlt).toNat : Nat) : Int) == 10) = true := beq_iff_eq.2 (by rw [bt_get hlt, hk]; rfl)
            have HTK : Hid (tokM s i = .ok (((4 : Int), (i : Int), s.extract i (i + 1), (0 : Int)), i + 1)) := by
              show tokM s i = _
              unfold tokM; rw [if_neg (by simp [hsm]), if_neg (by simp [hdg]; omega), if_neg (by omega), if_pos hk]
            have hE1 : (i : Int) ≤ (i : Int) + 1 := by omega
            have hE2 : (i : Int) + 1 ≤ (s.size : Int) := by omega
            have HNB := hid hnb
            clear hnb
            have GB := hid (Box.new wr (4) i (0))
            go_wp2_with (first | (go_at_call 52; refine (isSmall_any _ _).mono ?_; rintro e w' ⟨rfl, rfl⟩) | (go_at_call 54; refine (isDigit_any _ _).mono ?_; rintro e w' ⟨rfl, rfl⟩))
            have hext : (s.extract i (i + 1)).size ≤ 281474976710656 := by simp; omega
            refine (clone_any _ _ hext).mono ?_
            rintro e' w2 ⟨rfl, hb2⟩
            have G2 := GB.out.later hb2
            have hs2 := G2.size
            have g0 := G2.c0
            have g1 := G2.c1
            have g2 := G2.c2
            have g3 := G2.c3
            have zz2 := G2.z2
            have HG2 := hid G2
            clear G2 hb2 hext
            go_wp2_with (at_builtin; refine wpList_append_lies _ rfl _ _ 44 rfl (w.heap.size + 1) 61 i0 _ 4 40 Tryz.underlying44 hi0 hz0 hz1 hz2 rfl (by decide) u4 acc.length rows.flatten rfl ?hown ⟨w2.heap.size, 0, none⟩ 1 1 [.int .i64 (4), .int .i64 i, .string (s.extract i (i + 1)), .int .i64 (0)] rfl rfl ?hnews ?hone (by decide) ?h63 ?hby ?hbase (w2.heap.size + 1) ?hH ?_)
            case hown => exact I.out.own3 ((HG2.out.below.setCell (Nat.le_refl _) _).alloc (by simp [World.setCell]; omega) _)
            case hnews => exact World.news_of_block (by simpa [World.setCell] using heap_alloc_new (w2.setCell ⟨wr.heap.size, 2, none⟩ (.string (s.extract i (i + 1)))) (.cells #[.int .i64 (4), .int .i64 i, .string (s.extract i (i + 1)), .int .i64 (0)] 61))
            case hone => intro u hu; simp at hu; rcases hu with rfl | rfl | rfl | rfl <;> rfl
            case h63 => unfold maxLen; omega
            case hby => omega
            case hbase => simp [World.setCell]; omega
            case hH => simp [World.setCell]
            intro g cap w4 hown4 hgrow hat hglt
            have B3 : Below wr.heap.size wr ((w2.setCell ⟨wr.heap.size, 2, none⟩ (.string (s.extract i (i + 1)))).alloc (.cells #[.int .i64 (4), .int .i64 i, .string (s.extract i (i + 1)), .int .i64 (0)] 61)) := (HG2.out.below.setCell (Nat.le_refl _) _).alloc (by simp [World.setCell]; omega) _
            have hbw4 : Below (w.heap.size + 1) (w.alloc (.cells #[.int .i64 0, .int .i64 0] 49)) w4 := BW.out.trans ((B3.mono hsz).grown hgrow (by simp [World.setCell]; omega) (fun x hx => (I.out.own.lt x hx).1))
            have I4 := hid (OutInv.step (x := (((4 : Int), (i : Int), s.extract i (i + 1), (0 : Int)) : MTok)) tokRow_keep I.out hsz B3 rfl rfl hown4 hgrow (by simpa [World.setCell] using hat))
            have HBW4 := hid hbw4
            clear hown4 hgrow hat B3 hbw4 g0 g1 g2 g3 zz2
            go_wp2_with fail
            go_roundg (s.size - (i + 1))
            case measure => omega
            case rel => exact ⟨i + 1, rows ++ [_], acc ++ [_], by omega, by omega, by go_num, by simp; omega, HBW4.out, (by show OutInv _ _ _ _ _ _ _ _ _; simpa using I4.out), left_good HL.out hlt HNB.out HTK.out⟩
          · skip
            have q32 : ((((s[i]'hlt).toNat : Nat) : Int) == 32) = false := beq_eq_false_iff_ne.2 (by rw [bt_get hlt]; omega)
            have r0 : isSm (s[i]'hlt).toNat = false := by rw [bt_get hlt]; exact hsm
            have q45 : ((((s[i]'hlt).toNat : Nat) : Int) == 45) = false := beq_eq_false_iff_ne.2 (by rw [bt_get hlt]; omega)
            have r1 : isDg (s[i]'hlt).toNat = false := by rw [bt_get hlt]; exact hdg
            have q40 : ((((s[i]'hlt).toNat : Nat) : Int) == 40) = false := beq_eq_false_iff_ne.2 (by rw [bt_get hlt]; omega)
            have q41 : ((((s[i]'hlt).toNat : Nat) : Int) == 41) = false := beq_eq_false_iff_ne.2 (by rw [bt_get hlt]; omega)
            have q91 : ((((s[i]'hlt).toNat : Nat) : Int) == 91) = false := beq_eq_false_iff_ne.2 (by rw [bt_get hlt]; omega)
            have q93 : ((((s[i]'hlt).toNat : Nat) : Int) == 93) = false := beq_eq_false_iff_ne.2 (by rw [bt_get hlt]; omega)
            have q10 : ((((s[i]'hlt).toNat : Nat) : Int) == 10) = false := beq_eq_false_iff_ne.2 (by rw [bt_get hlt]; omega)
            have HTK : Hid (tokM s i = .error (i, 10)) := by
              show tokM s i = _
              unfold tokM; rw [if_neg (by simp [hsm]), if_neg (by simp [hdg]; omega), if_neg (by omega), if_neg hk]
            have HEND : Hid (left s 0 [] = .error (i, 10)) := HL.out.trans (left_bad acc hlt hnb HTK.out)
            have hne10 : ((10 : Int) != 0) = true := rfl
            have hneF : w.heap.size ≠ wr.heap.size := by omega
            have hltF : w.heap.size < wr.heap.size := by omega
            go_wp2_with (first | (go_at_call 52; refine (isSmall_any _ _).mono ?_; rintro e w' ⟨rfl, rfl⟩) | (go_at_call 54; refine (isDigit_any _ _).mono ?_; rintro e w' ⟨rfl, rfl⟩))
            go_quiet (fail)
            go_wp2_with fail
            rw [Exit.noGoto_ret]
            go_ret2
            refine ⟨?_, ?_⟩
            · rw [HEND.out]; exact rfl
            · exact below_drewN ((((((Below.refl _ w).alloc (Nat.le_refl _) _).trans (BW.out.mono (by omega))).setCell (Nat.le_refl _) _).setCell (Nat.le_refl _) _).alloc (by simp [World.setCell]; omega) _) _
    · have hlti : ¬ (i : Int) < (s.size : Int) := by omega
      have HEND : Hid (left s 0 [] = .ok acc) := HL.out.trans (left_end acc hlt)
      go_wp2_with fail
      rw [HEND.out]
      first | rw [Exit.noGoto_ret] | skip
      go_ret2
      exact ⟨⟨_, rfl, RowsIn.keep (OutInv.rows_in (bytes := 40) tokRow_keep I.out (by omega)) (by omega) (fun _ _ h => h) (fun _ _ _ => rfl) (fun b _ hb => by omega), owns_roomy I.out.own⟩, ((Below.refl _ w).alloc (Nat.le_refl _) _).trans (BW.out.mono (by omega))⟩
end Go.Proofs.YtkpomcimaofkkaaGreatDoor
