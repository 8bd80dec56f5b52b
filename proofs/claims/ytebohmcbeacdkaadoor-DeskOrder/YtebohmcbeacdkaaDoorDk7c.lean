/-
  DeskOrder, case by case.
-/
import Derived.Test.YtebohmcbeacdkaaDoorDk6
namespace Go.Proofs.YtebohmcbeacdkaaDoor
set_option linter.unusedVariables false
set_option linter.unusedSimpArgs false
open Go.RowKit

set_option maxRecDepth 100000 in
set_option maxHeartbeats 8000000 in
theorem order_110_1 (k : Int) (w : World) (te : TypeId) (pe : Value) (hv : w.cell? ⟨2, 0, none⟩ = some (.iface te pe)) (hm : wrap64 ((IntKind.u64.wrap k).tmod 3) = 1) :
    Calls Tryd.prog 4 #[.bool true, .bool true, .bool false, .int .i64 k] w fun e w' => e = .returned (.bool true) ∧ Below w.heap.size w w' := by
  have hlt := World.block_lt_of_cell? _ _ hv
  have HV := hidD hv
  have q1 := eqlOpt true true 9
  have q2 := fun a b => guardOpt .eql a b #[.bool true, .bool true, .int .i64 9] #[.bool true, .bool true, .int .i64 9]
  have R0 := hidD (SS.nil w.heap.size w)
  have B0 := hidD (Below.refl w.heap.size w)
  clear hv
  go_enter Tryd.func4, Tryd.ntmps4
  go_wp2_with (at_builtin; first | (refine wpList_append_s _ rfl _ _ rfl w.heap.size (.slice none 0 0) [] rfl (R0.out.below (below_new w _) (Nat.le_refl _)) (Nat.le_trans B0.out.size (below_new w _).size) _ [⟨#[114, 101, 97, 108]⟩] rfl (Src.new w ⟨#[114, 101, 97, 108]⟩) (by decide) (by decide) ?_; intro v1 w1 hs hf hb; have B1 := hidD ((B0.out.trans ((below_new w _).mono B0.out.size)).trans (hf.below (R0.out.below (below_new w (.cells #[.string ⟨#[114, 101, 97, 108]⟩] 9)) (Nat.le_refl _)) (Nat.le_trans B0.out.size (below_new w _).size))); obtain ⟨g1, c1, rfl, hc1, hx1, hg1, hl1, hd1⟩ := hs.cells (by decide); have R1 := hidD hs; have hc1 : 1 ≤ c1 := hc1; clear hs hf hb hd1) | (refine wpList_append_s _ rfl _ _ rfl w.heap.size (.slice (some ⟨g1, 0, none⟩) 1 c1) [⟨#[114, 101, 97, 108]⟩] rfl (R1.out.below (below_new w1 _) (Nat.le_refl _)) (Nat.le_trans B1.out.size (below_new w1 _).size) _ [⟨#[115, 101, 97, 114, 99, 104]⟩] rfl (Src.new w1 ⟨#[115, 101, 97, 114, 99, 104]⟩) (by decide) (by decide) ?_; intro v2 w2 hs hf hb; have B2 := hidD ((B1.out.trans ((below_new w1 _).mono B1.out.size)).trans (hf.below (R1.out.below (below_new w1 (.cells #[.string ⟨#[115, 101, 97, 114, 99, 104]⟩] 9)) (Nat.le_refl _)) (Nat.le_trans B1.out.size (below_new w1 _).size))); obtain ⟨g2, c2, rfl, hc2, hx2, hg2, hl2, hd2⟩ := hs.cells (by decide); have R2 := hidD hs; have hc2 : 2 ≤ c2 := hc2; clear hs hf hb hd2) | (refine wpList_append_s _ rfl _ _ rfl w2.heap.size (.slice (some ⟨w2.heap.size, 0, none⟩) 1 1) [⟨#[115, 116, 101, 112, 115, 32, 53]⟩] rfl (SS.new w2 ⟨#[115, 116, 101, 112, 115, 32, 53]⟩) (below_new w2 _).size _ [⟨#[115, 101, 97, 114, 99, 104]⟩] rfl ((R2.out.below (below_new w2 _) (Nat.le_refl _)).src 1 _ (by decide) _ rfl) (by decide) (by decide) ?_; intro v4 w4 hs hf hb; have B4 := hidD ((below_new w2 (.cells #[.string ⟨#[115, 116, 101, 112, 115, 32, 53]⟩] 9)).trans (hf.below (SS.new w2 ⟨#[115, 116, 101, 112, 115, 32, 53]⟩) (below_new w2 _).size)); have RL : Hid (SS w.heap.size w4 (.slice (some ⟨g2, 0, none⟩) 2 c2) [⟨#[114, 101, 97, 108]⟩, ⟨#[115, 101, 97, 114, 99, 104]⟩]) := ((R2.out.below (below_new w2 (.cells #[.string ⟨#[115, 116, 101, 112, 115, 32, 53]⟩] 9)) (Nat.le_refl _)).other hf (fun g hg e => by have h7 := (R2.out.block hg).2; have h8 := Option.some.inj e; simp only at h8; omega)); obtain ⟨g4, c4, rfl, hc4, hx4, hg4, hl4, hd4⟩ := hs.cells (by decide); have R4 := hidD hs; clear hs hf hb hd4) | (refine wpList_append_s _ rfl _ _ rfl w2.heap.size (.slice (some ⟨g4, 0, none⟩) 2 c4) [⟨#[115, 116, 101, 112, 115, 32, 53]⟩, ⟨#[115, 101, 97, 114, 99, 104]⟩] rfl R4.out B4.out.size _ [⟨#[114, 101, 97, 108]⟩, ⟨#[115, 101, 97, 114, 99, 104]⟩] rfl (RL.out.src 0 _ (by decide) _ rfl) (by decide) (by decide) ?_; intro v5 w5 hs hf hb; have B5 := hidD (B4.out.trans (hf.below R4.out B4.out.size)); obtain ⟨g5, c5, rfl, hc5, hx5, hg5, hl5, hd5⟩ := hs.cells (by decide); have D5 := hidD hd5; clear hs hf hb hd5))
  all_goals (
    have B6 : Hid (Below w.heap.size w w5) := B2.out.trans (B5.out.mono B2.out.size)
    have HJ : Hid (Calls Tryd.prog 8 #[.slice (some ⟨g5, 0, none⟩) 4 c5, .string ⟨#[32]⟩] w5 fun e w' => e = .returned (.string ⟨#[115, 116, 101, 112, 115, 32, 53, 32, 115, 101, 97, 114, 99, 104, 32, 114, 101, 97, 108, 32, 115, 101, 97, 114, 99, 104]⟩) ∧ Below w5.heap.size w5 w') :=
      Tryd.strings_Join g5 0 c5 [⟨#[115, 116, 101, 112, 115, 32, 53]⟩, ⟨#[115, 101, 97, 114, 99, 104]⟩, ⟨#[114, 101, 97, 108]⟩, ⟨#[115, 101, 97, 114, 99, 104]⟩] ⟨#[32]⟩ w5 D5.out hl5 (by decide) hc5 (by decide)
    refine HJ.out.mono ?_
    rintro e w6 ⟨rfl, b6⟩
    have B7 : Hid (Below w.heap.size w w6) := B6.out.trans (b6.mono B6.out.size)
    have HP := hidD (parse_is (⟨#[115, 116, 101, 112, 115, 32, 53, 32, 115, 101, 97, 114, 99, 104, 32, 114, 101, 97, 108, 32, 115, 101, 97, 114, 99, 104]⟩ ++ ⟨#[32, 115, 116, 101, 112, 115, 32, 57]⟩) w6 te pe ((B7.out.cell (p := ⟨2, 0, none⟩) hlt).trans HV.out))
    have HO : optM (⟨#[115, 116, 101, 112, 115, 32, 53, 32, 115, 101, 97, 114, 99, 104, 32, 114, 101, 97, 108, 32, 115, 101, 97, 114, 99, 104]⟩ ++ ⟨#[32, 115, 116, 101, 112, 115, 32, 57]⟩) = .ok ⟨true, true, 9, false⟩ := by kernel_rfl
    rw [HO] at HP
    clear b6 HO
    have hb : (false == false) = true := rfl
    go_wp2_with fail
    refine HP.out.mono ?_
    rintro e w7 ⟨rfl, b7⟩
    simp only [parseV]
    have B8 : Hid (Below w.heap.size w w7) := B7.out.trans (b7.mono B7.out.size)
    clear b7
    go_wp2_with fail
    go_ret
    exact ⟨rfl, B8.out.alloc B8.out.size _⟩)
set_option maxRecDepth 100000 in
set_option maxHeartbeats 8000000 in
theorem order_110_2 (k : Int) (w : World) (te : TypeId) (pe : Value) (hv : w.cell? ⟨2, 0, none⟩ = some (.iface te pe)) (hm : wrap64 ((IntKind.u64.wrap k).tmod 3) = 2) :
    Calls Tryd.prog 4 #[.bool true, .bool true, .bool false, .int .i64 k] w fun e w' => e = .returned (.bool true) ∧ Below w.heap.size w w' := by
  have hlt := World.block_lt_of_cell? _ _ hv
  have HV := hidD hv
  have q1 := eqlOpt true true 9
  have q2 := fun a b => guardOpt .eql a b #[.bool true, .bool true, .int .i64 9] #[.bool true, .bool true, .int .i64 9]
  have R0 := hidD (SS.nil w.heap.size w)
  have B0 := hidD (Below.refl w.heap.size w)
  clear hv
  go_enter Tryd.func4, Tryd.ntmps4
  go_wp2_with (at_builtin; first | (refine wpList_append_s _ rfl _ _ rfl w.heap.size (.slice none 0 0) [] rfl (R0.out.below (below_new w _) (Nat.le_refl _)) (Nat.le_trans B0.out.size (below_new w _).size) _ [⟨#[114, 101, 97, 108]⟩] rfl (Src.new w ⟨#[114, 101, 97, 108]⟩) (by decide) (by decide) ?_; intro v1 w1 hs hf hb; have B1 := hidD ((B0.out.trans ((below_new w _).mono B0.out.size)).trans (hf.below (R0.out.below (below_new w (.cells #[.string ⟨#[114, 101, 97, 108]⟩] 9)) (Nat.le_refl _)) (Nat.le_trans B0.out.size (below_new w _).size))); obtain ⟨g1, c1, rfl, hc1, hx1, hg1, hl1, hd1⟩ := hs.cells (by decide); have R1 := hidD hs; have hc1 : 1 ≤ c1 := hc1; clear hs hf hb hd1) | (refine wpList_append_s _ rfl _ _ rfl w.heap.size (.slice (some ⟨g1, 0, none⟩) 1 c1) [⟨#[114, 101, 97, 108]⟩] rfl (R1.out.below (below_new w1 _) (Nat.le_refl _)) (Nat.le_trans B1.out.size (below_new w1 _).size) _ [⟨#[115, 101, 97, 114, 99, 104]⟩] rfl (Src.new w1 ⟨#[115, 101, 97, 114, 99, 104]⟩) (by decide) (by decide) ?_; intro v2 w2 hs hf hb; have B2 := hidD ((B1.out.trans ((below_new w1 _).mono B1.out.size)).trans (hf.below (R1.out.below (below_new w1 (.cells #[.string ⟨#[115, 101, 97, 114, 99, 104]⟩] 9)) (Nat.le_refl _)) (Nat.le_trans B1.out.size (below_new w1 _).size))); obtain ⟨g2, c2, rfl, hc2, hx2, hg2, hl2, hd2⟩ := hs.cells (by decide); have R2 := hidD hs; have hc2 : 2 ≤ c2 := hc2; clear hs hf hb hd2) | (refine wpList_append_s _ rfl _ _ rfl w2.heap.size (.slice (some ⟨w2.heap.size, 0, none⟩) 1 1) [⟨#[115, 116, 101, 112, 115, 32, 53]⟩] rfl (SS.new w2 ⟨#[115, 116, 101, 112, 115, 32, 53]⟩) (below_new w2 _).size _ [] rfl (Src.none _ _ _) (by decide) (by decide) ?_; intro v4 w4 hs hf hb; have B4 := hidD ((below_new w2 (.cells #[.string ⟨#[115, 116, 101, 112, 115, 32, 53]⟩] 9)).trans (hf.below (SS.new w2 ⟨#[115, 116, 101, 112, 115, 32, 53]⟩) (below_new w2 _).size)); have RL : Hid (SS w.heap.size w4 (.slice (some ⟨g2, 0, none⟩) 2 c2) [⟨#[114, 101, 97, 108]⟩, ⟨#[115, 101, 97, 114, 99, 104]⟩]) := ((R2.out.below (below_new w2 (.cells #[.string ⟨#[115, 116, 101, 112, 115, 32, 53]⟩] 9)) (Nat.le_refl _)).other hf (fun g hg e => by have h7 := (R2.out.block hg).2; have h8 := Option.some.inj e; simp only at h8; omega)); obtain ⟨g4, c4, rfl, hc4, hx4, hg4, hl4, hd4⟩ := hs.cells (by decide); have R4 := hidD hs; clear hs hf hb hd4) | (refine wpList_append_s _ rfl _ _ rfl w2.heap.size (.slice (some ⟨g4, 0, none⟩) 1 c4) [⟨#[115, 116, 101, 112, 115, 32, 53]⟩] rfl R4.out B4.out.size _ [⟨#[114, 101, 97, 108]⟩, ⟨#[115, 101, 97, 114, 99, 104]⟩] rfl (RL.out.src 0 _ (by decide) _ rfl) (by decide) (by decide) ?_; intro v5 w5 hs hf hb; have B5 := hidD (B4.out.trans (hf.below R4.out B4.out.size)); obtain ⟨g5, c5, rfl, hc5, hx5, hg5, hl5, hd5⟩ := hs.cells (by decide); have D5 := hidD hd5; clear hs hf hb hd5))
  all_goals (
    have B6 : Hid (Below w.heap.size w w5) := B2.out.trans (B5.out.mono B2.out.size)
    have HJ : Hid (Calls Tryd.prog 8 #[.slice (some ⟨g5, 0, none⟩) 3 c5, .string ⟨#[32]⟩] w5 fun e w' => e = .returned (.string ⟨#[115, 116, 101, 112, 115, 32, 53, 32, 114, 101, 97, 108, 32, 115, 101, 97, 114, 99, 104]⟩) ∧ Below w5.heap.size w5 w') :=
      Tryd.strings_Join g5 0 c5 [⟨#[115, 116, 101, 112, 115, 32, 53]⟩, ⟨#[114, 101, 97, 108]⟩, ⟨#[115, 101, 97, 114, 99, 104]⟩] ⟨#[32]⟩ w5 D5.out hl5 (by decide) hc5 (by decide)
    refine HJ.out.mono ?_
    rintro e w6 ⟨rfl, b6⟩
    have B7 : Hid (Below w.heap.size w w6) := B6.out.trans (b6.mono B6.out.size)
    have HP := hidD (parse_is (⟨#[115, 116, 101, 112, 115, 32, 53, 32, 114, 101, 97, 108, 32, 115, 101, 97, 114, 99, 104]⟩ ++ ⟨#[32, 115, 116, 101, 112, 115, 32, 57]⟩) w6 te pe ((B7.out.cell (p := ⟨2, 0, none⟩) hlt).trans HV.out))
    have HO : optM (⟨#[115, 116, 101, 112, 115, 32, 53, 32, 114, 101, 97, 108, 32, 115, 101, 97, 114, 99, 104]⟩ ++ ⟨#[32, 115, 116, 101, 112, 115, 32, 57]⟩) = .ok ⟨true, true, 9, false⟩ := by kernel_rfl
    rw [HO] at HP
    clear b6 HO
    have hb : (false == false) = true := rfl
    go_wp2_with fail
    refine HP.out.mono ?_
    rintro e w7 ⟨rfl, b7⟩
    simp only [parseV]
    have B8 : Hid (Below w.heap.size w w7) := B7.out.trans (b7.mono B7.out.size)
    clear b7
    go_wp2_with fail
    go_ret
    exact ⟨rfl, B8.out.alloc B8.out.size _⟩)
set_option maxRecDepth 100000 in
set_option maxHeartbeats 8000000 in
theorem order_111_0 (k : Int) (w : World) (te : TypeId) (pe : Value) (hv : w.cell? ⟨2, 0, none⟩ = some (.iface te pe)) (hm : wrap64 ((IntKind.u64.wrap k).tmod 4) = 0) :
    Calls Tryd.prog 4 #[.bool true, .bool true, .bool true, .int .i64 k] w fun e w' => e = .returned (.bool true) ∧ Below w.heap.size w w' := by
  have hlt := World.block_lt_of_cell? _ _ hv
  have HV := hidD hv
  have q1 := eqlOpt true true 9
  have q2 := fun a b => guardOpt .eql a b #[.bool true, .bool true, .int .i64 9] #[.bool true, .bool true, .int .i64 9]
  have R0 := hidD (SS.nil w.heap.size w)
  have B0 := hidD (Below.refl w.heap.size w)
  clear hv
  go_enter Tryd.func4, Tryd.ntmps4
  go_wp2_with (at_builtin; first | (refine wpList_append_s _ rfl _ _ rfl w.heap.size (.slice none 0 0) [] rfl (R0.out.below (below_new w _) (Nat.le_refl _)) (Nat.le_trans B0.out.size (below_new w _).size) _ [⟨#[114, 101, 97, 108]⟩] rfl (Src.new w ⟨#[114, 101, 97, 108]⟩) (by decide) (by decide) ?_; intro v1 w1 hs hf hb; have B1 := hidD ((B0.out.trans ((below_new w _).mono B0.out.size)).trans (hf.below (R0.out.below (below_new w (.cells #[.string ⟨#[114, 101, 97, 108]⟩] 9)) (Nat.le_refl _)) (Nat.le_trans B0.out.size (below_new w _).size))); obtain ⟨g1, c1, rfl, hc1, hx1, hg1, hl1, hd1⟩ := hs.cells (by decide); have R1 := hidD hs; have hc1 : 1 ≤ c1 := hc1; clear hs hf hb hd1) | (refine wpList_append_s _ rfl _ _ rfl w.heap.size (.slice (some ⟨g1, 0, none⟩) 1 c1) [⟨#[114, 101, 97, 108]⟩] rfl (R1.out.below (below_new w1 _) (Nat.le_refl _)) (Nat.le_trans B1.out.size (below_new w1 _).size) _ [⟨#[115, 101, 97, 114, 99, 104]⟩] rfl (Src.new w1 ⟨#[115, 101, 97, 114, 99, 104]⟩) (by decide) (by decide) ?_; intro v2 w2 hs hf hb; have B2 := hidD ((B1.out.trans ((below_new w1 _).mono B1.out.size)).trans (hf.below (R1.out.below (below_new w1 (.cells #[.string ⟨#[115, 101, 97, 114, 99, 104]⟩] 9)) (Nat.le_refl _)) (Nat.le_trans B1.out.size (below_new w1 _).size))); obtain ⟨g2, c2, rfl, hc2, hx2, hg2, hl2, hd2⟩ := hs.cells (by decide); have R2 := hidD hs; have hc2 : 2 ≤ c2 := hc2; clear hs hf hb hd2) | (refine wpList_append_s _ rfl _ _ rfl w.heap.size (.slice (some ⟨g2, 0, none⟩) 2 c2) [⟨#[114, 101, 97, 108]⟩, ⟨#[115, 101, 97, 114, 99, 104]⟩] rfl (R2.out.below (below_new w2 _) (Nat.le_refl _)) (Nat.le_trans B2.out.size (below_new w2 _).size) _ [⟨#[101, 99, 104, 111]⟩] rfl (Src.new w2 ⟨#[101, 99, 104, 111]⟩) (by decide) (by decide) ?_; intro v3 w3 hs hf hb; have B3 := hidD ((B2.out.trans ((below_new w2 _).mono B2.out.size)).trans (hf.below (R2.out.below (below_new w2 (.cells #[.string ⟨#[101, 99, 104, 111]⟩] 9)) (Nat.le_refl _)) (Nat.le_trans B2.out.size (below_new w2 _).size))); obtain ⟨g3, c3, rfl, hc3, hx3, hg3, hl3, hd3⟩ := hs.cells (by decide); have R3 := hidD hs; have hc3 : 3 ≤ c3 := hc3; clear hs hf hb hd3) | (refine wpList_append_s _ rfl _ _ rfl w3.heap.size (.slice (some ⟨w3.heap.size, 0, none⟩) 1 1) [⟨#[115, 116, 101, 112, 115, 32, 53]⟩] rfl (SS.new w3 ⟨#[115, 116, 101, 112, 115, 32, 53]⟩) (below_new w3 _).size _ [⟨#[114, 101, 97, 108]⟩, ⟨#[115, 101, 97, 114, 99, 104]⟩, ⟨#[101, 99, 104, 111]⟩] rfl ((R3.out.below (below_new w3 _) (Nat.le_refl _)).src 0 _ (by decide) _ rfl) (by decide) (by decide) ?_; intro v4 w4 hs hf hb; have B4 := hidD ((below_new w3 (.cells #[.string ⟨#[115, 116, 101, 112, 115, 32, 53]⟩] 9)).trans (hf.below (SS.new w3 ⟨#[115, 116, 101, 112, 115, 32, 53]⟩) (below_new w3 _).size)); have RL : Hid (SS w.heap.size w4 (.slice (some ⟨g3, 0, none⟩) 3 c3) [⟨#[114, 101, 97, 108]⟩, ⟨#[115, 101, 97, 114, 99, 104]⟩, ⟨#[101, 99, 104, 111]⟩]) := ((R3.out.below (below_new w3 (.cells #[.string ⟨#[115, 116, 101, 112, 115, 32, 53]⟩] 9)) (Nat.le_refl _)).other hf (fun g hg e => by have h7 := (R3.out.block hg).2; have h8 := Option.some.inj e; simp only at h8; omega)); obtain ⟨g4, c4, rfl, hc4, hx4, hg4, hl4, hd4⟩ := hs.cells (by decide); have R4 := hidD hs; clear hs hf hb hd4) | (refine wpList_append_s _ rfl _ _ rfl w3.heap.size (.slice (some ⟨g4, 0, none⟩) 4 c4) [⟨#[115, 116, 101, 112, 115, 32, 53]⟩, ⟨#[114, 101, 97, 108]⟩, ⟨#[115, 101, 97, 114, 99, 104]⟩, ⟨#[101, 99, 104, 111]⟩] rfl R4.out B4.out.size _ [⟨#[114, 101, 97, 108]⟩, ⟨#[115, 101, 97, 114, 99, 104]⟩, ⟨#[101, 99, 104, 111]⟩] rfl (RL.out.src 0 _ (by decide) _ rfl) (by decide) (by decide) ?_; intro v5 w5 hs hf hb; have B5 := hidD (B4.out.trans (hf.below R4.out B4.out.size)); obtain ⟨g5, c5, rfl, hc5, hx5, hg5, hl5, hd5⟩ := hs.cells (by decide); have D5 := hidD hd5; clear hs hf hb hd5))
  all_goals (
    have B6 : Hid (Below w.heap.size w w5) := B3.out.trans (B5.out.mono B3.out.size)
    have HJ : Hid (Calls Tryd.prog 8 #[.slice (some ⟨g5, 0, none⟩) 7 c5, .string ⟨#[32]⟩] w5 fun e w' => e = .returned (.string ⟨#[115, 116, 101, 112, 115, 32, 53, 32, 114, 101, 97, 108, 32, 115, 101, 97, 114, 99, 104, 32, 101, 99, 104, 111, 32, 114, 101, 97, 108, 32, 115, 101, 97, 114, 99, 104, 32, 101, 99, 104, 111]⟩) ∧ Below w5.heap.size w5 w') :=
      Tryd.strings_Join g5 0 c5 [⟨#[115, 116, 101, 112, 115, 32, 53]⟩, ⟨#[114, 101, 97, 108]⟩, ⟨#[115, 101, 97, 114, 99, 104]⟩, ⟨#[101, 99, 104, 111]⟩, ⟨#[114, 101, 97, 108]⟩, ⟨#[115, 101, 97, 114, 99, 104]⟩, ⟨#[101, 99, 104, 111]⟩] ⟨#[32]⟩ w5 D5.out hl5 (by decide) hc5 (by decide)
    refine HJ.out.mono ?_
    rintro e w6 ⟨rfl, b6⟩
    have B7 : Hid (Below w.heap.size w w6) := B6.out.trans (b6.mono B6.out.size)
    have HP := hidD (parse_is (⟨#[115, 116, 101, 112, 115, 32, 53, 32, 114, 101, 97, 108, 32, 115, 101, 97, 114, 99, 104, 32, 101, 99, 104, 111, 32, 114, 101, 97, 108, 32, 115, 101, 97, 114, 99, 104, 32, 101, 99, 104, 111]⟩ ++ ⟨#[32, 115, 116, 101, 112, 115, 32, 57]⟩) w6 te pe ((B7.out.cell (p := ⟨2, 0, none⟩) hlt).trans HV.out))
    have HO : optM (⟨#[115, 116, 101, 112, 115, 32, 53, 32, 114, 101, 97, 108, 32, 115, 101, 97, 114, 99, 104, 32, 101, 99, 104, 111, 32, 114, 101, 97, 108, 32, 115, 101, 97, 114, 99, 104, 32, 101, 99, 104, 111]⟩ ++ ⟨#[32, 115, 116, 101, 112, 115, 32, 57]⟩) = .ok ⟨true, true, 9, true⟩ := by kernel_rfl
    rw [HO] at HP
    clear b6 HO
    have hb : (true == true) = true := rfl
    go_wp2_with fail
    refine HP.out.mono ?_
    rintro e w7 ⟨rfl, b7⟩
    simp only [parseV]
    have B8 : Hid (Below w.heap.size w w7) := B7.out.trans (b7.mono B7.out.size)
    clear b7
    go_wp2_with fail
    go_ret
    exact ⟨rfl, B8.out.alloc B8.out.size _⟩)
set_option maxRecDepth 100000 in
set_option maxHeartbeats 8000000 in
theorem order_111_1 (k : Int) (w : World) (te : TypeId) (pe : Value) (hv : w.cell? ⟨2, 0, none⟩ = some (.iface te pe)) (hm : wrap64 ((IntKind.u64.wrap k).tmod 4) = 1) :
    Calls Tryd.prog 4 #[.bool true, .bool true, .bool true, .int .i64 k] w fun e w' => e = .returned (.bool true) ∧ Below w.heap.size w w' := by
  have hlt := World.block_lt_of_cell? _ _ hv
  have HV := hidD hv
  have q1 := eqlOpt true true 9
  have q2 := fun a b => guardOpt .eql a b #[.bool true, .bool true, .int .i64 9] #[.bool true, .bool true, .int .i64 9]
  have R0 := hidD (SS.nil w.heap.size w)
  have B0 := hidD (Below.refl w.heap.size w)
  clear hv
  go_enter Tryd.func4, Tryd.ntmps4
  go_wp2_with (at_builtin; first | (refine wpList_append_s _ rfl _ _ rfl w.heap.size (.slice none 0 0) [] rfl (R0.out.below (below_new w _) (Nat.le_refl _)) (Nat.le_trans B0.out.size (below_new w _).size) _ [⟨#[114, 101, 97, 108]⟩] rfl (Src.new w ⟨#[114, 101, 97, 108]⟩) (by decide) (by decide) ?_; intro v1 w1 hs hf hb; have B1 := hidD ((B0.out.trans ((below_new w _).mono B0.out.size)).trans (hf.below (R0.out.below (below_new w (.cells #[.string ⟨#[114, 101, 97, 108]⟩] 9)) (Nat.le_refl _)) (Nat.le_trans B0.out.size (below_new w _).size))); obtain ⟨g1, c1, rfl, hc1, hx1, hg1, hl1, hd1⟩ := hs.cells (by decide); have R1 := hidD hs; have hc1 : 1 ≤ c1 := hc1; clear hs hf hb hd1) | (refine wpList_append_s _ rfl _ _ rfl w.heap.size (.slice (some ⟨g1, 0, none⟩) 1 c1) [⟨#[114, 101, 97, 108]⟩] rfl (R1.out.below (below_new w1 _) (Nat.le_refl _)) (Nat.le_trans B1.out.size (below_new w1 _).size) _ [⟨#[115, 101, 97, 114, 99, 104]⟩] rfl (Src.new w1 ⟨#[115, 101, 97, 114, 99, 104]⟩) (by decide) (by decide) ?_; intro v2 w2 hs hf hb; have B2 := hidD ((B1.out.trans ((below_new w1 _).mono B1.out.size)).trans (hf.below (R1.out.below (below_new w1 (.cells #[.string ⟨#[115, 101, 97, 114, 99, 104]⟩] 9)) (Nat.le_refl _)) (Nat.le_trans B1.out.size (below_new w1 _).size))); obtain ⟨g2, c2, rfl, hc2, hx2, hg2, hl2, hd2⟩ := hs.cells (by decide); have R2 := hidD hs; have hc2 : 2 ≤ c2 := hc2; clear hs hf hb hd2) | (refine wpList_append_s _ rfl _ _ rfl w.heap.size (.slice (some ⟨g2, 0, none⟩) 2 c2) [⟨#[114, 101, 97, 108]⟩, ⟨#[115, 101, 97, 114, 99, 104]⟩] rfl (R2.out.below (below_new w2 _) (Nat.le_refl _)) (Nat.le_trans B2.out.size (below_new w2 _).size) _ [⟨#[101, 99, 104, 111]⟩] rfl (Src.new w2 ⟨#[101, 99, 104, 111]⟩) (by decide) (by decide) ?_; intro v3 w3 hs hf hb; have B3 := hidD ((B2.out.trans ((below_new w2 _).mono B2.out.size)).trans (hf.below (R2.out.below (below_new w2 (.cells #[.string ⟨#[101, 99, 104, 111]⟩] 9)) (Nat.le_refl _)) (Nat.le_trans B2.out.size (below_new w2 _).size))); obtain ⟨g3, c3, rfl, hc3, hx3, hg3, hl3, hd3⟩ := hs.cells (by decide); have R3 := hidD hs; have hc3 : 3 ≤ c3 := hc3; clear hs hf hb hd3) | (refine wpList_append_s _ rfl _ _ rfl w3.heap.size (.slice (some ⟨w3.heap.size, 0, none⟩) 1 1) [⟨#[115, 116, 101, 112, 115, 32, 53]⟩] rfl (SS.new w3 ⟨#[115, 116, 101, 112, 115, 32, 53]⟩) (below_new w3 _).size _ [⟨#[115, 101, 97, 114, 99, 104]⟩, ⟨#[101, 99, 104, 111]⟩] rfl ((R3.out.below (below_new w3 _) (Nat.le_refl _)).src 1 _ (by decide) _ rfl) (by decide) (by decide) ?_; intro v4 w4 hs hf hb; have B4 := hidD ((below_new w3 (.cells #[.string ⟨#[115, 116, 101, 112, 115, 32, 53]⟩] 9)).trans (hf.below (SS.new w3 ⟨#[115, 116, 101, 112, 115, 32, 53]⟩) (below_new w3 _).size)); have RL : Hid (SS w.heap.size w4 (.slice (some ⟨g3, 0, none⟩) 3 c3) [⟨#[114, 101, 97, 108]⟩, ⟨#[115, 101, 97, 114, 99, 104]⟩, ⟨#[101, 99, 104, 111]⟩]) := ((R3.out.below (below_new w3 (.cells #[.string ⟨#[115, 116, 101, 112, 115, 32, 53]⟩] 9)) (Nat.le_refl _)).other hf (fun g hg e => by have h7 := (R3.out.block hg).2; have h8 := Option.some.inj e; simp only at h8; omega)); obtain ⟨g4, c4, rfl, hc4, hx4, hg4, hl4, hd4⟩ := hs.cells (by decide); have R4 := hidD hs; clear hs hf hb hd4) | (refine wpList_append_s _ rfl _ _ rfl w3.heap.size (.slice (some ⟨g4, 0, none⟩) 3 c4) [⟨#[115, 116, 101, 112, 115, 32, 53]⟩, ⟨#[115, 101, 97, 114, 99, 104]⟩, ⟨#[101, 99, 104, 111]⟩] rfl R4.out B4.out.size _ [⟨#[114, 101, 97, 108]⟩, ⟨#[115, 101, 97, 114, 99, 104]⟩, ⟨#[101, 99, 104, 111]⟩] rfl (RL.out.src 0 _ (by decide) _ rfl) (by decide) (by decide) ?_; intro v5 w5 hs hf hb; have B5 := hidD (B4.out.trans (hf.below R4.out B4.out.size)); obtain ⟨g5, c5, rfl, hc5, hx5, hg5, hl5, hd5⟩ := hs.cells (by decide); have D5 := hidD hd5; clear hs hf hb hd5))
  all_goals (
    have B6 : Hid (Below w.heap.size w w5) := B3.out.trans (B5.out.mono B3.out.size)
    have HJ : Hid (Calls Tryd.prog 8 #[.slice (some ⟨g5, 0, none⟩) 6 c5, .string ⟨#[32]⟩] w5 fun e w' => e = .returned (.string ⟨#[115, 116, 101, 112, 115, 32, 53, 32, 115, 101, 97, 114, 99, 104, 32, 101, 99, 104, 111, 32, 114, 101, 97, 108, 32, 115, 101, 97, 114, 99, 104, 32, 101, 99, 104, 111]⟩) ∧ Below w5.heap.size w5 w') :=
      Tryd.strings_Join g5 0 c5 [⟨#[115, 116, 101, 112, 115, 32, 53]⟩, ⟨#[115, 101, 97, 114, 99, 104]⟩, ⟨#[101, 99, 104, 111]⟩, ⟨#[114, 101, 97, 108]⟩, ⟨#[115, 101, 97, 114, 99, 104]⟩, ⟨#[101, 99, 104, 111]⟩] ⟨#[32]⟩ w5 D5.out hl5 (by decide) hc5 (by decide)
    refine HJ.out.mono ?_
    rintro e w6 ⟨rfl, b6⟩
    have B7 : Hid (Below w.heap.size w w6) := B6.out.trans (b6.mono B6.out.size)
    have HP := hidD (parse_is (⟨#[115, 116, 101, 112, 115, 32, 53, 32, 115, 101, 97, 114, 99, 104, 32, 101, 99, 104, 111, 32, 114, 101, 97, 108, 32, 115, 101, 97, 114, 99, 104, 32, 101, 99, 104, 111]⟩ ++ ⟨#[32, 115, 116, 101, 112, 115, 32, 57]⟩) w6 te pe ((B7.out.cell (p := ⟨2, 0, none⟩) hlt).trans HV.out))
    have HO : optM (⟨#[115, 116, 101, 112, 115, 32, 53, 32, 115, 101, 97, 114, 99, 104, 32, 101, 99, 104, 111, 32, 114, 101, 97, 108, 32, 115, 101, 97, 114, 99, 104, 32, 101, 99, 104, 111]⟩ ++ ⟨#[32, 115, 116, 101, 112, 115, 32, 57]⟩) = .ok ⟨true, true, 9, true⟩ := by kernel_rfl
    rw [HO] at HP
    clear b6 HO
    have hb : (true == true) = true := rfl
    go_wp2_with fail
    refine HP.out.mono ?_
    rintro e w7 ⟨rfl, b7⟩
    simp only [parseV]
    have B8 : Hid (Below w.heap.size w w7) := B7.out.trans (b7.mono B7.out.size)
    clear b7
    go_wp2_with fail
    go_ret
    exact ⟨rfl, B8.out.alloc B8.out.size _⟩)
set_option maxRecDepth 100000 in
set_option maxHeartbeats 8000000 in
theorem order_111_2 (k : Int) (w : World) (te : TypeId) (pe : Value) (hv : w.cell? ⟨2, 0, none⟩ = some (.iface te pe)) (hm : wrap64 ((IntKind.u64.wrap k).tmod 4) = 2) :
    Calls Tryd.prog 4 #[.bool true, .bool true, .bool true, .int .i64 k] w fun e w' => e = .returned (.bool true) ∧ Below w.heap.size w w' := by
  have hlt := World.block_lt_of_cell? _ _ hv
  have HV := hidD hv
  have q1 := eqlOpt true true 9
  have q2 := fun a b => guardOpt .eql a b #[.bool true, .bool true, .int .i64 9] #[.bool true, .bool true, .int .i64 9]
  have R0 := hidD (SS.nil w.heap.size w)
  have B0 := hidD (Below.refl w.heap.size w)
  clear hv
  go_enter Tryd.func4, Tryd.ntmps4
  go_wp2_with (at_builtin; first | (refine wpList_append_s _ rfl _ _ rfl w.heap.size (.slice none 0 0) [] rfl (R0.out.below (below_new w _) (Nat.le_refl _)) (Nat.le_trans B0.out.size (below_new w _).size) _ [⟨#[114, 101, 97, 108]⟩] rfl (Src.new w ⟨#[114, 101, 97, 108]⟩) (by decide) (by decide) ?_; intro v1 w1 hs hf hb; have B1 := hidD ((B0.out.trans ((below_new w _).mono B0.out.size)).trans (hf.below (R0.out.below (below_new w (.cells #[.string ⟨#[114, 101, 97, 108]⟩] 9)) (Nat.le_refl _)) (Nat.le_trans B0.out.size (below_new w _).size))); obtain ⟨g1, c1, rfl, hc1, hx1, hg1, hl1, hd1⟩ := hs.cells (by decide); have R1 := hidD hs; have hc1 : 1 ≤ c1 := hc1; clear hs hf hb hd1) | (refine wpList_append_s _ rfl _ _ rfl w.heap.size (.slice (some ⟨g1, 0, none⟩) 1 c1) [⟨#[114, 101, 97, 108]⟩] rfl (R1.out.below (below_new w1 _) (Nat.le_refl _)) (Nat.le_trans B1.out.size (below_new w1 _).size) _ [⟨#[115, 101, 97, 114, 99, 104]⟩] rfl (Src.new w1 ⟨#[115, 101, 97, 114, 99, 104]⟩) (by decide) (by decide) ?_; intro v2 w2 hs hf hb; have B2 := hidD ((B1.out.trans ((below_new w1 _).mono B1.out.size)).trans (hf.below (R1.out.below (below_new w1 (.cells #[.string ⟨#[115, 101, 97, 114, 99, 104]⟩] 9)) (Nat.le_refl _)) (Nat.le_trans B1.out.size (below_new w1 _).size))); obtain ⟨g2, c2, rfl, hc2, hx2, hg2, hl2, hd2⟩ := hs.cells (by decide); have R2 := hidD hs; have hc2 : 2 ≤ c2 := hc2; clear hs hf hb hd2) | (refine wpList_append_s _ rfl _ _ rfl w.heap.size (.slice (some ⟨g2, 0, none⟩) 2 c2) [⟨#[114, 101, 97, 108]⟩, ⟨#[115, 101, 97, 114, 99, 104]⟩] rfl (R2.out.below (below_new w2 _) (Nat.le_refl _)) (Nat.le_trans B2.out.size (below_new w2 _).size) _ [⟨#[101, 99, 104, 111]⟩] rfl (Src.new w2 ⟨#[101, 99, 104, 111]⟩) (by decide) (by decide) ?_; intro v3 w3 hs hf hb; have B3 := hidD ((B2.out.trans ((below_new w2 _).mono B2.out.size)).trans (hf.below (R2.out.below (below_new w2 (.cells #[.string ⟨#[101, 99, 104, 111]⟩] 9)) (Nat.le_refl _)) (Nat.le_trans B2.out.size (below_new w2 _).size))); obtain ⟨g3, c3, rfl, hc3, hx3, hg3, hl3, hd3⟩ := hs.cells (by decide); have R3 := hidD hs; have hc3 : 3 ≤ c3 := hc3; clear hs hf hb hd3) | (refine wpList_append_s _ rfl _ _ rfl w3.heap.size (.slice (some ⟨w3.heap.size, 0, none⟩) 1 1) [⟨#[115, 116, 101, 112, 115, 32, 53]⟩] rfl (SS.new w3 ⟨#[115, 116, 101, 112, 115, 32, 53]⟩) (below_new w3 _).size _ [⟨#[101, 99, 104, 111]⟩] rfl ((R3.out.below (below_new w3 _) (Nat.le_refl _)).src 2 _ (by decide) _ rfl) (by decide) (by decide) ?_; intro v4 w4 hs hf hb; have B4 := hidD ((below_new w3 (.cells #[.string ⟨#[115, 116, 101, 112, 115, 32, 53]⟩] 9)).trans (hf.below (SS.new w3 ⟨#[115, 116, 101, 112, 115, 32, 53]⟩) (below_new w3 _).size)); have RL : Hid (SS w.heap.size w4 (.slice (some ⟨g3, 0, none⟩) 3 c3) [⟨#[114, 101, 97, 108]⟩, ⟨#[115, 101, 97, 114, 99, 104]⟩, ⟨#[101, 99, 104, 111]⟩]) := ((R3.out.below (below_new w3 (.cells #[.string ⟨#[115, 116, 101, 112, 115, 32, 53]⟩] 9)) (Nat.le_refl _)).other hf (fun g hg e => by have h7 := (R3.out.block hg).2; have h8 := Option.some.inj e; simp only at h8; omega)); obtain ⟨g4, c4, rfl, hc4, hx4, hg4, hl4, hd4⟩ := hs.cells (by decide); have R4 := hidD hs; clear hs hf hb hd4) | (refine wpList_append_s _ rfl _ _ rfl w3.heap.size (.slice (some ⟨g4, 0, none⟩) 2 c4) [⟨#[115, 116, 101, 112, 115, 32, 53]⟩, ⟨#[101, 99, 104, 111]⟩] rfl R4.out B4.out.size _ [⟨#[114, 101, 97, 108]⟩, ⟨#[115, 101, 97, 114, 99, 104]⟩, ⟨#[101, 99, 104, 111]⟩] rfl (RL.out.src 0 _ (by decide) _ rfl) (by decide) (by decide) ?_; intro v5 w5 hs hf hb; have B5 := hidD (B4.out.trans (hf.below R4.out B4.out.size)); obtain ⟨g5, c5, rfl, hc5, hx5, hg5, hl5, hd5⟩ := hs.cells (by decide); have D5 := hidD hd5; clear hs hf hb hd5))
  all_goals (
    have B6 : Hid (Below w.heap.size w w5) := B3.out.trans (B5.out.mono B3.out.size)
    have HJ : Hid (Calls Tryd.prog 8 #[.slice (some ⟨g5, 0, none⟩) 5 c5, .string ⟨#[32]⟩] w5 fun e w' => e = .returned (.string ⟨#[115, 116, 101, 112, 115, 32, 53, 32, 101, 99, 104, 111, 32, 114, 101, 97, 108, 32, 115, 101, 97, 114, 99, 104, 32, 101, 99, 104, 111]⟩) ∧ Below w5.heap.size w5 w') :=
      Tryd.strings_Join g5 0 c5 [⟨#[115, 116, 101, 112, 115, 32, 53]⟩, ⟨#[101, 99, 104, 111]⟩, ⟨#[114, 101, 97, 108]⟩, ⟨#[115, 101, 97, 114, 99, 104]⟩, ⟨#[101, 99, 104, 111]⟩] ⟨#[32]⟩ w5 D5.out hl5 (by decide) hc5 (by decide)
    refine HJ.out.mono ?_
    rintro e w6 ⟨rfl, b6⟩
    have B7 : Hid (Below w.heap.size w w6) := B6.out.trans (b6.mono B6.out.size)
    have HP := hidD (parse_is (⟨#[115, 116, 101, 112, 115, 32, 53, 32, 101, 99, 104, 111, 32, 114, 101, 97, 108, 32, 115, 101, 97, 114, 99, 104, 32, 101, 99, 104, 111]⟩ ++ ⟨#[32, 115, 116, 101, 112, 115, 32, 57]⟩) w6 te pe ((B7.out.cell (p := ⟨2, 0, none⟩) hlt).trans HV.out))
    have HO : optM (⟨#[115, 116, 101, 112, 115, 32, 53, 32, 101, 99, 104, 111, 32, 114, 101, 97, 108, 32, 115, 101, 97, 114, 99, 104, 32, 101, 99, 104, 111]⟩ ++ ⟨#[32, 115, 116, 101, 112, 115, 32, 57]⟩) = .ok ⟨true, true, 9, true⟩ := by kernel_rfl
    rw [HO] at HP
    clear b6 HO
    have hb : (true == true) = true := rfl
    go_wp2_with fail
    refine HP.out.mono ?_
    rintro e w7 ⟨rfl, b7⟩
    simp only [parseV]
    have B8 : Hid (Below w.heap.size w w7) := B7.out.trans (b7.mono B7.out.size)
    clear b7
    go_wp2_with fail
    go_ret
    exact ⟨rfl, B8.out.alloc B8.out.size _⟩)
set_option maxRecDepth 100000 in
set_option maxHeartbeats 8000000 in
theorem order_111_3 (k : Int) (w : World) (te : TypeId) (pe : Value) (hv : w.cell? ⟨2, 0, none⟩ = some (.iface te pe)) (hm : wrap64 ((IntKind.u64.wrap k).tmod 4) = 3) :
    Calls Tryd.prog 4 #[.bool true, .bool true, .bool true, .int .i64 k] w fun e w' => e = .returned (.bool true) ∧ Below w.heap.size w w' := by
  have hlt := World.block_lt_of_cell? _ _ hv
  have HV := hidD hv
  have q1 := eqlOpt true true 9
  have q2 := fun a b => guardOpt .eql a b #[.bool true, .bool true, .int .i64 9] #[.bool true, .bool true, .int .i64 9]
  have R0 := hidD (SS.nil w.heap.size w)
  have B0 := hidD (Below.refl w.heap.size w)
  clear hv
  go_enter Tryd.func4, Tryd.ntmps4
  go_wp2_with (at_builtin; first | (refine wpList_append_s _ rfl _ _ rfl w.heap.size (.slice none 0 0) [] rfl (R0.out.below (below_new w _) (Nat.le_refl _)) (Nat.le_trans B0.out.size (below_new w _).size) _ [⟨#[114, 101, 97, 108]⟩] rfl (Src.new w ⟨#[114, 101, 97, 108]⟩) (by decide) (by decide) ?_; intro v1 w1 hs hf hb; have B1 := hidD ((B0.out.trans ((below_new w _).mono B0.out.size)).trans (hf.below (R0.out.below (below_new w (.cells #[.string ⟨#[114, 101, 97, 108]⟩] 9)) (Nat.le_refl _)) (Nat.le_trans B0.out.size (below_new w _).size))); obtain ⟨g1, c1, rfl, hc1, hx1, hg1, hl1, hd1⟩ := hs.cells (by decide); have R1 := hidD hs; have hc1 : 1 ≤ c1 := hc1; clear hs hf hb hd1) | (refine wpList_append_s _ rfl _ _ rfl w.heap.size (.slice (some ⟨g1, 0, none⟩) 1 c1) [⟨#[114, 101, 97, 108]⟩] rfl (R1.out.below (below_new w1 _) (Nat.le_refl _)) (Nat.le_trans B1.out.size (below_new w1 _).size) _ [⟨#[115, 101, 97, 114, 99, 104]⟩] rfl (Src.new w1 ⟨#[115, 101, 97, 114, 99, 104]⟩) (by decide) (by decide) ?_; intro v2 w2 hs hf hb; have B2 := hidD ((B1.out.trans ((below_new w1 _).mono B1.out.size)).trans (hf.below (R1.out.below (below_new w1 (.cells #[.string ⟨#[115, 101, 97, 114, 99, 104]⟩] 9)) (Nat.le_refl _)) (Nat.le_trans B1.out.size (below_new w1 _).size))); obtain ⟨g2, c2, rfl, hc2, hx2, hg2, hl2, hd2⟩ := hs.cells (by decide); have R2 := hidD hs; have hc2 : 2 ≤ c2 := hc2; clear hs hf hb hd2) | (refine wpList_append_s _ rfl _ _ rfl w.heap.size (.slice (some ⟨g2, 0, none⟩) 2 c2) [⟨#[114, 101, 97, 108]⟩, ⟨#[115, 101, 97, 114, 99, 104]⟩] rfl (R2.out.below (below_new w2 _) (Nat.le_refl _)) (Nat.le_trans B2.out.size (below_new w2 _).size) _ [⟨#[101, 99, 104, 111]⟩] rfl (Src.new w2 ⟨#[101, 99, 104, 111]⟩) (by decide) (by decide) ?_; intro v3 w3 hs hf hb; have B3 := hidD ((B2.out.trans ((below_new w2 _).mono B2.out.size)).trans (hf.below (R2.out.below (below_new w2 (.cells #[.string ⟨#[101, 99, 104, 111]⟩] 9)) (Nat.le_refl _)) (Nat.le_trans B2.out.size (below_new w2 _).size))); obtain ⟨g3, c3, rfl, hc3, hx3, hg3, hl3, hd3⟩ := hs.cells (by decide); have R3 := hidD hs; have hc3 : 3 ≤ c3 := hc3; clear hs hf hb hd3) | (refine wpList_append_s _ rfl _ _ rfl w3.heap.size (.slice (some ⟨w3.heap.size, 0, none⟩) 1 1) [⟨#[115, 116, 101, 112, 115, 32, 53]⟩] rfl (SS.new w3 ⟨#[115, 116, 101, 112, 115, 32, 53]⟩) (below_new w3 _).size _ [] rfl (Src.none _ _ _) (by decide) (by decide) ?_; intro v4 w4 hs hf hb; have B4 := hidD ((below_new w3 (.cells #[.string ⟨#[115, 116, 101, 112, 115, 32, 53]⟩] 9)).trans (hf.below (SS.new w3 ⟨#[115, 116, 101, 112, 115, 32, 53]⟩) (below_new w3 _).size)); have RL : Hid (SS w.heap.size w4 (.slice (some ⟨g3, 0, none⟩) 3 c3) [⟨#[114, 101, 97, 108]⟩, ⟨#[115, 101, 97, 114, 99, 104]⟩, ⟨#[101, 99, 104, 111]⟩]) := ((R3.out.below (below_new w3 (.cells #[.string ⟨#[115, 116, 101, 112, 115, 32, 53]⟩] 9)) (Nat.le_refl _)).other hf (fun g hg e => by have h7 := (R3.out.block hg).2; have h8 := Option.some.inj e; simp only at h8; omega)); obtain ⟨g4, c4, rfl, hc4, hx4, hg4, hl4, hd4⟩ := hs.cells (by decide); have R4 := hidD hs; clear hs hf hb hd4) | (refine wpList_append_s _ rfl _ _ rfl w3.heap.size (.slice (some ⟨g4, 0, none⟩) 1 c4) [⟨#[115, 116, 101, 112, 115, 32, 53]⟩] rfl R4.out B4.out.size _ [⟨#[114, 101, 97, 108]⟩, ⟨#[115, 101, 97, 114, 99, 104]⟩, ⟨#[101, 99, 104, 111]⟩] rfl (RL.out.src 0 _ (by decide) _ rfl) (by decide) (by decide) ?_; intro v5 w5 hs hf hb; have B5 := hidD (B4.out.trans (hf.below R4.out B4.out.size)); obtain ⟨g5, c5, rfl, hc5, hx5, hg5, hl5, hd5⟩ := hs.cells (by decide); have D5 := hidD hd5; clear hs hf hb hd5))
  all_goals (
    have B6 : Hid (Below w.heap.size w w5) := B3.out.trans (B5.out.mono B3.out.size)
    have HJ : Hid (Calls Tryd.prog 8 #[.slice (some ⟨g5, 0, none⟩) 4 c5, .string ⟨#[32]⟩] w5 fun e w' => e = .returned (.string ⟨#[115, 116, 101, 112, 115, 32, 53, 32, 114, 101, 97, 108, 32, 115, 101, 97, 114, 99, 104, 32, 101, 99, 104, 111]⟩) ∧ Below w5.heap.size w5 w') :=
      Tryd.strings_Join g5 0 c5 [⟨#[115, 116, 101, 112, 115, 32, 53]⟩, ⟨#[114, 101, 97, 108]⟩, ⟨#[115, 101, 97, 114, 99, 104]⟩, ⟨#[101, 99, 104, 111]⟩] ⟨#[32]⟩ w5 D5.out hl5 (by decide) hc5 (by decide)
    refine HJ.out.mono ?_
    rintro e w6 ⟨rfl, b6⟩
    have B7 : Hid (Below w.heap.size w w6) := B6.out.trans (b6.mono B6.out.size)
    have HP := hidD (parse_is (⟨#[115, 116, 101, 112, 115, 32, 53, 32, 114, 101, 97, 108, 32, 115, 101, 97, 114, 99, 104, 32, 101, 99, 104, 111]⟩ ++ ⟨#[32, 115, 116, 101, 112, 115, 32, 57]⟩) w6 te pe ((B7.out.cell (p := ⟨2, 0, none⟩) hlt).trans HV.out))
    have HO : optM (⟨#[115, 116, 101, 112, 115, 32, 53, 32, 114, 101, 97, 108, 32, 115, 101, 97, 114, 99, 104, 32, 101, 99, 104, 111]⟩ ++ ⟨#[32, 115, 116, 101, 112, 115, 32, 57]⟩) = .ok ⟨true, true, 9, true⟩ := by kernel_rfl
    rw [HO] at HP
    clear b6 HO
    have hb : (true == true) = true := rfl
    go_wp2_with fail
    refine HP.out.mono ?_
    rintro e w7 ⟨rfl, b7⟩
    simp only [parseV]
    have B8 : Hid (Below w.heap.size w w7) := B7.out.trans (b7.mono B7.out.size)
    clear b7
    go_wp2_with fail
    go_ret
    exact ⟨rfl, B8.out.alloc B8.out.size _⟩)
end Go.Proofs.YtebohmcbeacdkaaDoor
