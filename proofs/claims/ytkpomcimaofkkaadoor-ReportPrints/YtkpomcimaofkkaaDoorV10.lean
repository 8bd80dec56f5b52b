/-
  The document's Print of a report: an anomaly's line.
-/
import Derived.Test.YtkpomcimaofkkaaDoorV9
namespace Go.Proofs.YtkpomcimaofkkaaDoor.Rp
set_option linter.unusedVariables false
set_option linter.unusedSimpArgs false
open Go.RowKit Go.Lib

theorem kinds_less {k : Int} (h : (wordN kindWs k).toList ≠ []) : 1 ≤ k ∧ k ≤ 11 ∧ rkindWs.getD (k - 1).toNat default = wordN kindWs k := by
  by_cases hk : 0 ≤ k ∧ k < kindWs.length
  · have hl : kindWs.length = 12 := rfl
    rcases (by omega : k = 0 ∨ k = 1 ∨ k = 2 ∨ k = 3 ∨ k = 4 ∨ k = 5 ∨ k = 6 ∨ k = 7 ∨ k = 8 ∨ k = 9 ∨ k = 10 ∨ k = 11) with rfl | rfl | rfl | rfl | rfl | rfl | rfl | rfl | rfl | rfl | rfl | rfl
    · exfalso
      apply h
      rw [ByteArray.toList_eq]
      rfl
    all_goals exact ⟨by omega, by omega, rfl⟩
  · exact absurd (by rw [show wordN kindWs k = ⟨#[]⟩ from if_neg hk, ByteArray.toList_eq]) h
/-- The head of the line. -/
def dHead (a : MA) : ByteArray := ⟨#[97, 110, 111, 109, 97, 108, 121, 32]⟩ ++ wordN kindWs a.1 ++ spB (decB a.2.1) ++ spB (decB a.2.2.1) ++ spB (decB a.2.2.2.1) ++ spB (brB a.2.2.2.2.1) ++ spB (decB a.2.2.2.2.2.1) ++ eiB a.2.2.2.2.2.2.2.1 ⟨#[32, 114, 101, 97, 108, 32]⟩ ⟨#[32, 112, 108, 97, 105, 110, 32]⟩ ++ nameN a.2.2.2.2.2.2.2.2
/-- A dependency on the line. -/
def dDep (x : MW) : ByteArray := ⟨#[32, 91]⟩ ++ spB (decB x.1) ++ ⟨#[32]⟩ ++ wordN labelWs x.2.2.1 ++ spB (decB x.2.1) ++ spB (brB x.2.2.2.1) ++ spB (decB x.2.2.2.2.1) ++ spB (decB x.2.2.2.2.2.1) ++ eiB x.2.2.2.2.2.2.1 ⟨#[32, 110, 105, 108]⟩ ⟨#[32, 118, 97, 108, 117, 101]⟩ ++ eiB x.2.2.2.2.2.2.2 ⟨#[32, 99, 111, 110, 100]⟩ ⟨#[32, 115, 117, 114, 101]⟩ ++ ⟨#[32, 93]⟩
def catW : List MW → ByteArray
  | [] => ⟨#[]⟩
  | x :: l => dDep x ++ catW l
theorem catW_snoc (l : List MW) (x : MW) : catW (l ++ [x]) = catW l ++ dDep x := by
  induction l with
  | nil =>
    show dDep x ++ ⟨#[]⟩ = ⟨#[]⟩ ++ dDep x
    apply eq_of_data
    simp [ByteArray.data_append]
  | cons y l ih =>
    show dDep y ++ catW (l ++ [x]) = dDep y ++ catW l ++ dDep x
    rw [ih, ByteArray.append_assoc]
theorem catW_take {l : List MW} {k : Nat} {x : MW} (hk : k < l.length) (hx : l.getD k default = x) : catW (l.take (k + 1)) = catW (l.take k) ++ dDep x := by
  rw [List.take_succ_eq_append_getElem hk, catW_snoc]
  have e : l[k] = x := by rw [← hx]; simp [List.getD, List.getElem?_eq_getElem hk]
  rw [e]
set_option maxHeartbeats 8000000 in
set_option maxRecDepth 100000 in
theorem dan_head (x0 x1 x2 x3 : Int) (x4 : ByteArray) (x5 : Int) (ca : Option Addr) (cc : Nat) (cyc : List MW) (x7 : Bool) (x8 : Int) (w : World) (hc : WhysIn w (.slice ca cyc.length cc) cyc) (hk : (wordN kindWs x0).toList ≠ []) (hR : RngA (x0, x1, x2, x3, x4, x5, cyc, x7, x8)) :
    Calls Tryd.prog 20 #[.agg #[.int .i64 x0, .int .i64 x1, .int .i64 x2, .int .i64 x3, .string x4, .int .i64 x5, .slice ca cyc.length cc, .bool x7, .int .i64 x8]] w fun e w' => (∃ s : ByteArray, e = .returned (.string s) ∧ s = dHead (x0, x1, x2, x3, x4, x5, cyc, x7, x8) ++ catW cyc ++ ⟨#[10]⟩) ∧ Below w.heap.size w w' := by
  obtain ⟨r1, r2, r3, r4, r5, r6, r7⟩ := hR
  simp only [MA.cyc] at r1 r2 r3 r4 r5 r6 r7
  have BX := box_new w #[.int .i64 x0, .int .i64 x1, .int .i64 x2, .int .i64 x3, .string x4, .int .i64 x5, .slice ca cyc.length cc, .bool x7, .int .i64 x8] 46
  have A1 := hid (below_box w (.cells #[.int .i64 x0, .int .i64 x1, .int .i64 x2, .int .i64 x3, .string x4, .int .i64 x5, .slice ca cyc.length cc, .bool x7, .int .i64 x8] 46))
  obtain ⟨W, hW⟩ : ∃ W, w.alloc (.cells #[.int .i64 x0, .int .i64 x1, .int .i64 x2, .int .i64 x3, .string x4, .int .i64 x5, .slice ca cyc.length cc, .bool x7, .int .i64 x8] 46) = W := ⟨_, rfl⟩
  obtain ⟨o, ho⟩ : ∃ o, w.heap.size = o := ⟨_, rfl⟩
  have BW1 : Hid (Below w.heap.size w W) := by rw [← hW]; exact A1.out
  rw [hW, ho] at BX
  have HBX := hid BX
  have c0 : W.cell? ⟨o, 0, none⟩ = some (.int .i64 x0) := BX.cell 0
  have c1 : W.cell? ⟨o, 1, none⟩ = some (.int .i64 x1) := BX.cell 1
  have c2 : W.cell? ⟨o, 2, none⟩ = some (.int .i64 x2) := BX.cell 2
  have c3 : W.cell? ⟨o, 3, none⟩ = some (.int .i64 x3) := BX.cell 3
  have c4 : W.cell? ⟨o, 4, none⟩ = some (.string x4) := BX.cell 4
  have c5 : W.cell? ⟨o, 5, none⟩ = some (.int .i64 x5) := BX.cell 5
  have c7 : W.cell? ⟨o, 7, none⟩ = some (.bool x7) := BX.cell 7
  have c8 : W.cell? ⟨o, 8, none⟩ = some (.int .i64 x8) := BX.cell 8
  obtain ⟨k1, k2, k3⟩ := kinds_less hk
  obtain ⟨q, rfl⟩ : ∃ q : Nat, x0 = (q : Int) + 1 := ⟨(x0 - 1).toNat, by omega⟩
  have hq : q < 11 := by omega
  have hq2 : (q : Int) + 1 - 1 = q := by omega
  rw [hq2, Int.toNat_natCast] at k3
  obtain ⟨lb, hlb⟩ : ∃ d, wordN kindWs ((q : Int) + 1) = d := ⟨_, rfl⟩
  have zlb : lb.size ≤ 20 := by rw [← hlb]; exact wordN_size (by decide)
  obtain ⟨n1, hn1⟩ : ∃ d, spB (decB x1) = d := ⟨_, rfl⟩
  have zn1 : n1.size ≤ 22 := by rw [← hn1]; exact (by have := decB_size r1; unfold spB; simp only [ByteArray.size_append]; have : (⟨#[32]⟩ : ByteArray).size = 1 := rfl; omega)
  obtain ⟨n2, hn2⟩ : ∃ d, spB (decB x2) = d := ⟨_, rfl⟩
  have zn2 : n2.size ≤ 22 := by rw [← hn2]; exact (by have := decB_size r2; unfold spB; simp only [ByteArray.size_append]; have : (⟨#[32]⟩ : ByteArray).size = 1 := rfl; omega)
  obtain ⟨n3, hn3⟩ : ∃ d, spB (decB x3) = d := ⟨_, rfl⟩
  have zn3 : n3.size ≤ 22 := by rw [← hn3]; exact (by have := decB_size r3; unfold spB; simp only [ByteArray.size_append]; have : (⟨#[32]⟩ : ByteArray).size = 1 := rfl; omega)
  obtain ⟨n5, hn5⟩ : ∃ d, spB (decB x5) = d := ⟨_, rfl⟩
  have zn5 : n5.size ≤ 22 := by rw [← hn5]; exact (by have := decB_size r4; unfold spB; simp only [ByteArray.size_append]; have : (⟨#[32]⟩ : ByteArray).size = 1 := rfl; omega)
  obtain ⟨bk, hbk⟩ : ∃ d, spB (brB x4) = d := ⟨_, rfl⟩
  have zbk : bk.size ≤ 1005 := by rw [← hbk]; exact (by have := brB_size r5; unfold spB; simp only [ByteArray.size_append]; have : (⟨#[32]⟩ : ByteArray).size = 1 := rfl; omega)
  obtain ⟨ei, hei⟩ : ∃ d, eiB x7 ⟨#[32, 114, 101, 97, 108, 32]⟩ ⟨#[32, 112, 108, 97, 105, 110, 32]⟩ = d := ⟨_, rfl⟩
  have zei : ei.size ≤ 20 := by rw [← hei]; exact eiB_size _ (by decide) (by decide)
  obtain ⟨lv, hlv⟩ : ∃ d, nameN x8 = d := ⟨_, rfl⟩
  have zlv : lv.size ≤ 20 := by rw [← hlv]; exact nameN_size _
  obtain ⟨s0, hs0⟩ : ∃ d, (⟨#[97, 110, 111, 109, 97, 108, 121, 32]⟩ : ByteArray) ++ lb = d := ⟨_, rfl⟩
  have Z_s0 : Hid ((⟨#[97, 110, 111, 109, 97, 108, 121, 32]⟩ : ByteArray).size + lb.size ≤ 9223372036854775807) := by show _ ≤ _; have : (⟨#[97, 110, 111, 109, 97, 108, 121, 32]⟩ : ByteArray).size = 8 := rfl; omega
  have zs0 : s0.size ≤ 40 := by rw [← hs0, ByteArray.size_append]; have : (⟨#[97, 110, 111, 109, 97, 108, 121, 32]⟩ : ByteArray).size = 8 := rfl; omega
  have E_s0 := hid hs0
  obtain ⟨s1, hs1⟩ : ∃ d, s0 ++ n1 = d := ⟨_, rfl⟩
  have Z_s1 : Hid (s0.size + n1.size ≤ 9223372036854775807) := by show _ ≤ _; omega
  have zs1 : s1.size ≤ 70 := by rw [← hs1, ByteArray.size_append]; omega
  have E_s1 := hid hs1
  obtain ⟨s2, hs2⟩ : ∃ d, s1 ++ n2 = d := ⟨_, rfl⟩
  have Z_s2 : Hid (s1.size + n2.size ≤ 9223372036854775807) := by show _ ≤ _; omega
  have zs2 : s2.size ≤ 100 := by rw [← hs2, ByteArray.size_append]; omega
  have E_s2 := hid hs2
  obtain ⟨s3, hs3⟩ : ∃ d, s2 ++ n3 = d := ⟨_, rfl⟩
  have Z_s3 : Hid (s2.size + n3.size ≤ 9223372036854775807) := by show _ ≤ _; omega
  have zs3 : s3.size ≤ 130 := by rw [← hs3, ByteArray.size_append]; omega
  have E_s3 := hid hs3
  obtain ⟨s4, hs4⟩ : ∃ d, s3 ++ bk = d := ⟨_, rfl⟩
  have Z_s4 : Hid (s3.size + bk.size ≤ 9223372036854775807) := by show _ ≤ _; omega
  have zs4 : s4.size ≤ 1200 := by rw [← hs4, ByteArray.size_append]; omega
  have E_s4 := hid hs4
  obtain ⟨s5, hs5⟩ : ∃ d, s4 ++ n5 = d := ⟨_, rfl⟩
  have Z_s5 : Hid (s4.size + n5.size ≤ 9223372036854775807) := by show _ ≤ _; omega
  have zs5 : s5.size ≤ 1230 := by rw [← hs5, ByteArray.size_append]; omega
  have E_s5 := hid hs5
  obtain ⟨s6, hs6⟩ : ∃ d, s5 ++ ei = d := ⟨_, rfl⟩
  have Z_s6 : Hid (s5.size + ei.size ≤ 9223372036854775807) := by show _ ≤ _; omega
  have zs6 : s6.size ≤ 1260 := by rw [← hs6, ByteArray.size_append]; omega
  have E_s6 := hid hs6
  obtain ⟨s7, hs7⟩ : ∃ d, s6 ++ lv = d := ⟨_, rfl⟩
  have Z_s7 : Hid (s6.size + lv.size ≤ 9223372036854775807) := by show _ ≤ _; omega
  have zs7 : s7.size ≤ 1290 := by rw [← hs7, ByteArray.size_append]; omega
  have E_s7 := hid hs7
  have I_n1 : Hid (∀ V, Calls Tryd.prog 18 #[.int .i64 x1] V fun e w' => e = .returned (.string n1) ∧ Below V.heap.size V w') := fun V => by rw [← hn1]; exact dnum_is21 x1 r1 V
  have I_n2 : Hid (∀ V, Calls Tryd.prog 18 #[.int .i64 x2] V fun e w' => e = .returned (.string n2) ∧ Below V.heap.size V w') := fun V => by rw [← hn2]; exact dnum_is21 x2 r2 V
  have I_n3 : Hid (∀ V, Calls Tryd.prog 18 #[.int .i64 x3] V fun e w' => e = .returned (.string n3) ∧ Below V.heap.size V w') := fun V => by rw [← hn3]; exact dnum_is21 x3 r3 V
  have I_n5 : Hid (∀ V, Calls Tryd.prog 18 #[.int .i64 x5] V fun e w' => e = .returned (.string n5) ∧ Below V.heap.size V w') := fun V => by rw [← hn5]; exact dnum_is21 x5 r4 V
  have I_bk : Hid (∀ V, Calls Tryd.prog 37 #[.string x4] V fun e w' => e = .returned (.string bk) ∧ Below V.heap.size V w') := fun V => by rw [← hbk]; exact dkey_is21 x4 r5 V
  have I_ei : Hid (∀ V, Calls Tryd.prog 19 #[.bool x7, .string ⟨#[32, 114, 101, 97, 108, 32]⟩, .string ⟨#[32, 112, 108, 97, 105, 110, 32]⟩] V fun e w' => e = .returned (.string ei) ∧ Below V.heap.size V w') := fun V => by rw [← hei]; exact deither_is21 x7 _ _ V
  have I_lv : Hid (∀ V, Calls Tryd.prog 21 #[.int .i64 x8] V fun e w' => e = .returned (.string lv) ∧ Below V.heap.size V w') := fun V => by rw [← hlv]; exact dname_is21 x8 V
  have HDD : Hid (s7 = dHead ((q : Int) + 1, x1, x2, x3, x4, x5, cyc, x7, x8)) := by show _ = _; unfold dHead; simp only [hlb, hn1, hn2, hn3, hbk, hn5, hei, hlv, hs0, hs1, hs2, hs3, hs4, hs5, hs6, hs7]
  have HC := hid hc
  have RW := hid r7
  have hcn : (cyc.length : Int) ≤ 300 := by omega
  have HLB : Hid (rkindWs.getD q default = lb) := by show _ = _; rw [k3, hlb]
  have HH := hid ho
  clear BX A1 r1 r2 r3 r4 r5 hlb hn1 hn2 hn3 hn5 hbk hei hlv hs0 hs1 hs2 hs3 hs4 hs5 hs6 hs7 k1 k2 k3 hk hc r7
  go_enter Tryd.func20, Tryd.ntmps20
  go_wp2_with fail
  clear hW ho
  refine wp_region_ask Tryd.mixedOrders (by kernel_rfl) (fun val => { tmps := #[_, _, _, val 35, _, _, val 0, val 1, val 2, val 3, val 4, val 5, val 6, val 7, val 8, val 9, val 10, val 11, val 12, val 13, val 14, val 15, val 16, val 17, val 18, val 19, val 20, val 21, val 22, val 23, val 24, val 25, val 26, val 27, val 28, val 29, val 30, val 31, val 32, val 33, val 34, _, _, _, _, _, _, _, _, _, _, _, _, _, _, _, _, _, _, _, _, _, _, _, _, _, _, _, _, _, _, _, _, _, _, _, _, _, _, _, _, _, _, _, _, _, _], defers := [] }) (fun i y V => match i with | 0 => ∃ g, y = .slice (some ⟨g, 0, none⟩) 11 11 ∧ WordsAt V g rkindWs | 1 => y = .pointer (some ⟨o, 0, none⟩) | 2 => y = .int .i64 ((q : Int) + 1) | 3 => y = .int .i64 q | 4 => ∃ g, y = .pointer (some ⟨g, q, none⟩) ∧ WordsAt V g rkindWs | 5 => y = .string lb | 6 => y = .string s0 | 7 => y = .pointer (some ⟨o, 1, none⟩) | 8 => y = .int .i64 x1 | 9 => y = .string n1 | 10 => y = .string s1 | 11 => y = .pointer (some ⟨o, 2, none⟩) | 12 => y = .int .i64 x2 | 13 => y = .string n2 | 14 => y = .string s2 | 15 => y = .pointer (some ⟨o, 3, none⟩) | 16 => y = .int .i64 x3 | 17 => y = .string n3 | 18 => y = .string s3 | 19 => y = .pointer (some ⟨o, 4, none⟩) | 20 => y = .string x4 | 21 => y = .string bk | 22 => y = .string s4 | 23 => y = .pointer (some ⟨o, 5, none⟩) | 24 => y = .int .i64 x5 | 25 => y = .string n5 | 26 => y = .string s5 | 27 => y = .pointer (some ⟨o, 7, none⟩) | 28 => y = .bool x7 | 29 => y = .string ei | 30 => y = .string s6 | 31 => y = .pointer (some ⟨o, 8, none⟩) | 32 => y = .int .i64 x8 | 33 => y = .string lv | 34 => y = .string s7 | 35 => y = .string s7 | _ => True) (fun i => match i with | 0 => undef | 1 => undef | 2 => undef | 3 => undef | 4 => undef | 5 => undef | 6 => undef | 7 => undef | 8 => undef | 9 => undef | 10 => undef | 11 => undef | 12 => undef | 13 => undef | 14 => undef | 15 => undef | 16 => undef | 17 => undef | 18 => undef | 19 => undef | 20 => undef | 21 => undef | 22 => undef | 23 => undef | 24 => undef | 25 => undef | 26 => undef | 27 => undef | 28 => undef | 29 => undef | 30 => undef | 31 => undef | 32 => undef | 33 => undef | 34 => undef | 35 => undef | _ => undef) rfl ?_ _ rfl ⟨?_, ?_, ?_, ?_, ?_, ?_, ?_, ?_, ?_, ?_, ?_, ?_, ?_, ?_, ?_, ?_, ?_, ?_, ?_, ?_, ?_, ?_, ?_, ?_, ?_, ?_, ?_, ?_, ?_, ?_, ?_, ?_, ?_, ?_, ?_, ?_, trivial⟩ ?_
  · intro i v w w' h hb
    match i, h with
    | 0, h => exact h.imp fun g q => ⟨q.1, q.2.below hb⟩
    | 1, h => exact h
    | 2, h => exact h
    | 3, h => exact h
    | 4, h => exact h.imp fun g q => ⟨q.1, q.2.below hb⟩
    | 5, h => exact h
    | 6, h => exact h
    | 7, h => exact h
    | 8, h => exact h
    | 9, h => exact h
    | 10, h => exact h
    | 11, h => exact h
    | 12, h => exact h
    | 13, h => exact h
    | 14, h => exact h
    | 15, h => exact h
    | 16, h => exact h
    | 17, h => exact h
    | 18, h => exact h
    | 19, h => exact h
    | 20, h => exact h
    | 21, h => exact h
    | 22, h => exact h
    | 23, h => exact h
    | 24, h => exact h
    | 25, h => exact h
    | 26, h => exact h
    | 27, h => exact h
    | 28, h => exact h
    | 29, h => exact h
    | 30, h => exact h
    | 31, h => exact h
    | 32, h => exact h
    | 33, h => exact h
    | 34, h => exact h
    | 35, h => exact h
    | _ + 36, h => trivial
  · refine ask_plain rfl (fun _ _ => rfl) (fun val V hb hd => ?_)
    refine does_call (f := 36) (args := #[]) ?_ (dkinds_is V) ?_
    · simp [execOp, Act.eval, go_sem, resolve, invoke]
    · rintro e w2 ⟨rfl, rfl⟩
      exact ⟨_, rfl, ⟨_, rfl, words_is V rkindWs⟩, below_box V _⟩
  · refine ask_plain rfl (fun _ _ => rfl) (fun val V hb hd => ?_)
    refine does_value (v := .pointer (some ⟨o, 0, none⟩)) ?_ rfl
    simp [execOp, Act.eval, go_sem]
  · refine ask_plain rfl (fun _ _ => rfl) (fun val V hb hd => ?_)
    have h1 : val 1 = .pointer (some ⟨o, 0, none⟩) := depsAll_get hd 1 (by kernel_rfl)
    have e_ := rx_later hb c0
    refine does_value (v := .int .i64 ((q : Int) + 1)) ?_ rfl
    simp [execOp, Act.eval, go_sem, h1, e_]
  · refine ask_plain rfl (fun _ _ => rfl) (fun val V hb hd => ?_)
    have h2 : val 2 = .int .i64 ((q : Int) + 1) := depsAll_get hd 2 (by kernel_rfl)
    refine does_value (v := .int .i64 q) ?_ rfl
    simp [execOp, Act.eval, go_sem, h2, hq2]
    rw [IntKind.wrap_i64]
    omega
  · refine ask_plain rfl (fun _ _ => rfl) (fun val V hb hd => ?_)
    obtain ⟨g, h0, hg⟩ := depsAll_get hd 0 (by kernel_rfl)
    have h3 : val 3 = .int .i64 (q : Int) := depsAll_get hd 3 (by kernel_rfl)
    have hqi : (q : Int) < 11 := by omega
    have hq0 : (0 : Int) ≤ q := by omega
    refine does_value (v := .pointer (some ⟨g, q, none⟩)) ?_ ⟨g, rfl, hg⟩
    simp [execOp, Act.eval, go_sem, h0, h3, hqi, hq0]
  · refine ask_plain rfl (fun _ _ => rfl) (fun val V hb hd => ?_)
    obtain ⟨g, h4, hg⟩ := depsAll_get hd 4 (by kernel_rfl)
    have hc := hg.cell (k := q) hq
    rw [HLB.out] at hc
    refine does_value (v := .string lb) ?_ rfl
    simp [execOp, Act.eval, go_sem, h4, hc]
  · refine ask_plain rfl (fun _ _ => rfl) (fun val V hb hd => ?_)
    have h5 : val 5 = .string lb := depsAll_get hd 5 (by kernel_rfl)
    exact does_value (run_add rfl rfl h5 Z_s0.out E_s0.out) rfl
  · refine ask_plain rfl (fun _ _ => rfl) (fun val V hb hd => ?_)
    refine does_value (v := .pointer (some ⟨o, 1, none⟩)) ?_ rfl
    simp [execOp, Act.eval, go_sem]
  · refine ask_plain rfl (fun _ _ => rfl) (fun val V hb hd => ?_)
    have h7 : val 7 = .pointer (some ⟨o, 1, none⟩) := depsAll_get hd 7 (by kernel_rfl)
    have e_ := rx_later hb c1
    refine does_value (v := .int .i64 x1) ?_ rfl
    simp [execOp, Act.eval, go_sem, h7, e_]
  · refine ask_plain rfl (fun _ _ => rfl) (fun val V hb hd => ?_)
    have h8 : val 8 = .int .i64 x1 := depsAll_get hd 8 (by kernel_rfl)
    refine does_call (f := 18) (args := #[.int .i64 x1]) ?_ (I_n1.out V) ?_
    · simp [execOp, Act.eval, go_sem, resolve, invoke, h8]
    · rintro e w2 ⟨rfl, hb2⟩
      exact ⟨_, rfl, rfl, hb2⟩
  · refine ask_plain rfl (fun _ _ => rfl) (fun val V hb hd => ?_)
    have h6 : val 6 = .string s0 := depsAll_get hd 6 (by kernel_rfl)
    have h9 : val 9 = .string n1 := depsAll_get hd 9 (by kernel_rfl)
    exact does_value (run_add rfl h6 h9 Z_s1.out E_s1.out) rfl
  · refine ask_plain rfl (fun _ _ => rfl) (fun val V hb hd => ?_)
    refine does_value (v := .pointer (some ⟨o, 2, none⟩)) ?_ rfl
    simp [execOp, Act.eval, go_sem]
  · refine ask_plain rfl (fun _ _ => rfl) (fun val V hb hd => ?_)
    have h11 : val 11 = .pointer (some ⟨o, 2, none⟩) := depsAll_get hd 11 (by kernel_rfl)
    have e_ := rx_later hb c2
    refine does_value (v := .int .i64 x2) ?_ rfl
    simp [execOp, Act.eval, go_sem, h11, e_]
  · refine ask_plain rfl (fun _ _ => rfl) (fun val V hb hd => ?_)
    have h12 : val 12 = .int .i64 x2 := depsAll_get hd 12 (by kernel_rfl)
    refine does_call (f := 18) (args := #[.int .i64 x2]) ?_ (I_n2.out V) ?_
    · simp [execOp, Act.eval, go_sem, resolve, invoke, h12]
    · rintro e w2 ⟨rfl, hb2⟩
      exact ⟨_, rfl, rfl, hb2⟩
  · refine ask_plain rfl (fun _ _ => rfl) (fun val V hb hd => ?_)
    have h10 : val 10 = .string s1 := depsAll_get hd 10 (by kernel_rfl)
    have h13 : val 13 = .string n2 := depsAll_get hd 13 (by kernel_rfl)
    exact does_value (run_add rfl h10 h13 Z_s2.out E_s2.out) rfl
  · refine ask_plain rfl (fun _ _ => rfl) (fun val V hb hd => ?_)
    refine does_value (v := .pointer (some ⟨o, 3, none⟩)) ?_ rfl
    simp [execOp, Act.eval, go_sem]
  · refine ask_plain rfl (fun _ _ => rfl) (fun val V hb hd => ?_)
    have h15 : val 15 = .pointer (some ⟨o, 3, none⟩) := depsAll_get hd 15 (by kernel_rfl)
    have e_ := rx_later hb c3
    refine does_value (v := .int .i64 x3) ?_ rfl
    simp [execOp, Act.eval, go_sem, h15, e_]
  · refine ask_plain rfl (fun _ _ => rfl) (fun val V hb hd => ?_)
    have h16 : val 16 = .int .i64 x3 := depsAll_get hd 16 (by kernel_rfl)
    refine does_call (f := 18) (args := #[.int .i64 x3]) ?_ (I_n3.out V) ?_
    · simp [execOp, Act.eval, go_sem, resolve, invoke, h16]
    · rintro e w2 ⟨rfl, hb2⟩
      exact ⟨_, rfl, rfl, hb2⟩
  · refine ask_plain rfl (fun _ _ => rfl) (fun val V hb hd => ?_)
    have h14 : val 14 = .string s2 := depsAll_get hd 14 (by kernel_rfl)
    have h17 : val 17 = .string n3 := depsAll_get hd 17 (by kernel_rfl)
    exact does_value (run_add rfl h14 h17 Z_s3.out E_s3.out) rfl
  · refine ask_plain rfl (fun _ _ => rfl) (fun val V hb hd => ?_)
    refine does_value (v := .pointer (some ⟨o, 4, none⟩)) ?_ rfl
    simp [execOp, Act.eval, go_sem]
  · refine ask_plain rfl (fun _ _ => rfl) (fun val V hb hd => ?_)
    have h19 : val 19 = .pointer (some ⟨o, 4, none⟩) := depsAll_get hd 19 (by kernel_rfl)
    have e_ := rx_later hb c4
    refine does_value (v := .string x4) ?_ rfl
    simp [execOp, Act.eval, go_sem, h19, e_]
  · refine ask_plain rfl (fun _ _ => rfl) (fun val V hb hd => ?_)
    have h20 : val 20 = .string x4 := depsAll_get hd 20 (by kernel_rfl)
    refine does_call (f := 37) (args := #[.string x4]) ?_ (I_bk.out V) ?_
    · simp [execOp, Act.eval, go_sem, resolve, invoke, h20]
    · rintro e w2 ⟨rfl, hb2⟩
      exact ⟨_, rfl, rfl, hb2⟩
  · refine ask_plain rfl (fun _ _ => rfl) (fun val V hb hd => ?_)
    have h18 : val 18 = .string s3 := depsAll_get hd 18 (by kernel_rfl)
    have h21 : val 21 = .string bk := depsAll_get hd 21 (by kernel_rfl)
    exact does_value (run_add rfl h18 h21 Z_s4.out E_s4.out) rfl
  · refine ask_plain rfl (fun _ _ => rfl) (fun val V hb hd => ?_)
    refine does_value (v := .pointer (some ⟨o, 5, none⟩)) ?_ rfl
    simp [execOp, Act.eval, go_sem]
  · refine ask_plain rfl (fun _ _ => rfl) (fun val V hb hd => ?_)
    have h23 : val 23 = .pointer (some ⟨o, 5, none⟩) := depsAll_get hd 23 (by kernel_rfl)
    have e_ := rx_later hb c5
    refine does_value (v := .int .i64 x5) ?_ rfl
    simp [execOp, Act.eval, go_sem, h23, e_]
  · refine ask_plain rfl (fun _ _ => rfl) (fun val V hb hd => ?_)
    have h24 : val 24 = .int .i64 x5 := depsAll_get hd 24 (by kernel_rfl)
    refine does_call (f := 18) (args := #[.int .i64 x5]) ?_ (I_n5.out V) ?_
    · simp [execOp, Act.eval, go_sem, resolve, invoke, h24]
    · rintro e w2 ⟨rfl, hb2⟩
      exact ⟨_, rfl, rfl, hb2⟩
  · refine ask_plain rfl (fun _ _ => rfl) (fun val V hb hd => ?_)
    have h22 : val 22 = .string s4 := depsAll_get hd 22 (by kernel_rfl)
    have h25 : val 25 = .string n5 := depsAll_get hd 25 (by kernel_rfl)
    exact does_value (run_add rfl h22 h25 Z_s5.out E_s5.out) rfl
  · refine ask_plain rfl (fun _ _ => rfl) (fun val V hb hd => ?_)
    refine does_value (v := .pointer (some ⟨o, 7, none⟩)) ?_ rfl
    simp [execOp, Act.eval, go_sem]
  · refine ask_plain rfl (fun _ _ => rfl) (fun val V hb hd => ?_)
    have h27 : val 27 = .pointer (some ⟨o, 7, none⟩) := depsAll_get hd 27 (by kernel_rfl)
    have e_ := rx_later hb c7
    refine does_value (v := .bool x7) ?_ rfl
    simp [execOp, Act.eval, go_sem, h27, e_]
  · refine ask_plain rfl (fun _ _ => rfl) (fun val V hb hd => ?_)
    have h28 : val 28 = .bool x7 := depsAll_get hd 28 (by kernel_rfl)
    refine does_call (f := 19) (args := #[.bool x7, .string ⟨#[32, 114, 101, 97, 108, 32]⟩, .string ⟨#[32, 112, 108, 97, 105, 110, 32]⟩]) ?_ (I_ei.out V) ?_
    · simp [execOp, Act.eval, go_sem, resolve, invoke, h28]
    · rintro e w2 ⟨rfl, hb2⟩
      exact ⟨_, rfl, rfl, hb2⟩
  · refine ask_plain rfl (fun _ _ => rfl) (fun val V hb hd => ?_)
    have h26 : val 26 = .string s5 := depsAll_get hd 26 (by kernel_rfl)
    have h29 : val 29 = .string ei := depsAll_get hd 29 (by kernel_rfl)
    exact does_value (run_add rfl h26 h29 Z_s6.out E_s6.out) rfl
  · refine ask_plain rfl (fun _ _ => rfl) (fun val V hb hd => ?_)
    refine does_value (v := .pointer (some ⟨o, 8, none⟩)) ?_ rfl
    simp [execOp, Act.eval, go_sem]
  · refine ask_plain rfl (fun _ _ => rfl) (fun val V hb hd => ?_)
    have h31 : val 31 = .pointer (some ⟨o, 8, none⟩) := depsAll_get hd 31 (by kernel_rfl)
    have e_ := rx_later hb c8
    refine does_value (v := .int .i64 x8) ?_ rfl
    simp [execOp, Act.eval, go_sem, h31, e_]
  · refine ask_plain rfl (fun _ _ => rfl) (fun val V hb hd => ?_)
    have h32 : val 32 = .int .i64 x8 := depsAll_get hd 32 (by kernel_rfl)
    refine does_call (f := 21) (args := #[.int .i64 x8]) ?_ (I_lv.out V) ?_
    · simp [execOp, Act.eval, go_sem, resolve, invoke, h32]
    · rintro e w2 ⟨rfl, hb2⟩
      exact ⟨_, rfl, rfl, hb2⟩
  · refine ask_plain rfl (fun _ _ => rfl) (fun val V hb hd => ?_)
    have h30 : val 30 = .string s6 := depsAll_get hd 30 (by kernel_rfl)
    have h33 : val 33 = .string lv := depsAll_get hd 33 (by kernel_rfl)
    exact does_value (run_add rfl h30 h33 Z_s7.out E_s7.out) rfl
  · refine ask_plain rfl (fun _ _ => rfl) (fun val V hb hd => ?_)
    have h34 : val 34 = .string s7 := depsAll_get hd 34 (by kernel_rfl)
    refine does_value (v := .string s7) ?_ rfl
    simp [execOp, Act.eval, go_sem, h34]
  · intro val V hb hR
    have hr : val 35 = .string s7 := hR 35 (by decide)
    have BV := hid hb
    have c6 : V.cell? ⟨o, 6, none⟩ = some (.slice ca cyc.length cc) := (HBX.out.later hb).cell 6
    clear hR hb
    simp only [hr]
    clear hr c0 c1 c2 c3 c4 c5 c7 c8 I_n1 I_n2 I_n3 I_n5 I_bk I_ei I_lv
    go_wp2_with fail
    go_loopg [3, 5, 44] cyc.length (fun gg v3 _ i wr => ∃ (k : Nat) (sb : ByteArray), k ≤ cyc.length ∧ cyc.length - k ≤ gg ∧ i = .int .i64 k ∧ v3 = .string sb ∧ Aside (sb = s7 ++ catW (cyc.take k)) ∧ Aside (sb.size ≤ 2000 + k * 2000) ∧ Aside (Below W.heap.size W wr))
    case atStart => exact ⟨0, s7, Nat.zero_le _, by omega, rfl, rfl, by show s7 = s7 ++ ⟨#[]⟩; apply eq_of_data; simp [ByteArray.data_append], by show s7.size ≤ _; omega, BV.out⟩
    case round =>
      clear BV c6
      obtain ⟨k, sb, hk, hg, rfl, rfl, SE, SZ, BR⟩ := hrel
      by_cases hlt : k < cyc.length
      · have hlti : (k : Int) < cyc.length := by omega
        have hk0 : (0 : Int) ≤ k := by omega
        have HCR := HC.out.later (BW1.out.trans (BR.out.mono BW1.out.size))
        obtain ⟨ao2, c2, e2, _, hrc⟩ := Tx.RowsIn.cells HCR (by omega)
        obtain ⟨b, off, cs, hab, hbl, hlen, hrow, hcs⟩ := hrc k hlt
        simp only [Value.slice.injEq, true_and] at e2
        obtain ⟨e2, e3⟩ := e2
        subst hab
        subst e2
        subst e3
        obtain ⟨⟨y0, y1, y2, y3, y4, y5, y6, y7⟩, hx⟩ : ∃ x, cyc.getD k default = x := ⟨_, rfl⟩
        have hRW := RW.out (cyc.getD k default) (by simp [List.getD, List.getElem?_eq_getElem hlt])
        rw [hx] at hrow hRW
        obtain ⟨q1, q2, q3, q4, q5⟩ := hRW
        subst hrow
        have HX := hid hx
        clear hx HCR hrc
        simp only at q1 q2 q3 q4 q5
        have k0 : wr.cell? ⟨b, off + k * 8, none⟩ = some (.int .i64 y0) := by simpa using hcs 0 (.int .i64 y0) rfl
        have k1 : wr.cell? ⟨b, off + k * 8 + 1, none⟩ = some (.int .i64 y1) := by simpa using hcs 1 (.int .i64 y1) rfl
        have k2 : wr.cell? ⟨b, off + k * 8 + 2, none⟩ = some (.int .i64 y2) := by simpa using hcs 2 (.int .i64 y2) rfl
        have k3 : wr.cell? ⟨b, off + k * 8 + 3, none⟩ = some (.string y3) := by simpa using hcs 3 (.string y3) rfl
        have k4 : wr.cell? ⟨b, off + k * 8 + 4, none⟩ = some (.int .i64 y4) := by simpa using hcs 4 (.int .i64 y4) rfl
        have k5 : wr.cell? ⟨b, off + k * 8 + 5, none⟩ = some (.int .i64 y5) := by simpa using hcs 5 (.int .i64 y5) rfl
        have k6 : wr.cell? ⟨b, off + k * 8 + 6, none⟩ = some (.bool y6) := by simpa using hcs 6 (.bool y6) rfl
        have k7 : wr.cell? ⟨b, off + k * 8 + 7, none⟩ = some (.bool y7) := by simpa using hcs 7 (.bool y7) rfl
        clear hcs hlen
        have BY := box_new wr #[.int .i64 y0, .int .i64 y1, .int .i64 y2, .string y3, .int .i64 y4, .int .i64 y5, .bool y6, .bool y7] 59
        have A2 := hid (below_box wr (.cells #[.int .i64 y0, .int .i64 y1, .int .i64 y2, .string y3, .int .i64 y4, .int .i64 y5, .bool y6, .bool y7] 59))
        obtain ⟨U, hU⟩ : ∃ U, wr.alloc (.cells #[.int .i64 y0, .int .i64 y1, .int .i64 y2, .string y3, .int .i64 y4, .int .i64 y5, .bool y6, .bool y7] 59) = U := ⟨_, rfl⟩
        obtain ⟨p, hp⟩ : ∃ p, wr.heap.size = p := ⟨_, rfl⟩
        have BU : Hid (Below wr.heap.size wr U) := by rw [← hU]; exact A2.out
        rw [hU, hp] at BY
        have f0 : U.cell? ⟨p, 0, none⟩ = some (.int .i64 y0) := BY.cell 0
        have f1 : U.cell? ⟨p, 1, none⟩ = some (.int .i64 y1) := BY.cell 1
        have f2 : U.cell? ⟨p, 2, none⟩ = some (.int .i64 y2) := BY.cell 2
        have f3 : U.cell? ⟨p, 3, none⟩ = some (.string y3) := BY.cell 3
        have f4 : U.cell? ⟨p, 4, none⟩ = some (.int .i64 y4) := BY.cell 4
        have f5 : U.cell? ⟨p, 5, none⟩ = some (.int .i64 y5) := BY.cell 5
        have f6 : U.cell? ⟨p, 6, none⟩ = some (.bool y6) := BY.cell 6
        have f7 : U.cell? ⟨p, 7, none⟩ = some (.bool y7) := BY.cell 7
        obtain ⟨lw, hlw⟩ : ∃ d, wordN labelWs y2 = d := ⟨_, rfl⟩
        have zlw : lw.size ≤ 20 := by rw [← hlw]; exact wordN_size (by decide)
        obtain ⟨e0, he0⟩ : ∃ d, spB (decB y0) = d := ⟨_, rfl⟩
        have ze0 : e0.size ≤ 22 := by rw [← he0]; exact (by have := decB_size q1; unfold spB; simp only [ByteArray.size_append]; have : (⟨#[32]⟩ : ByteArray).size = 1 := rfl; omega)
        obtain ⟨e1, he1⟩ : ∃ d, spB (decB y1) = d := ⟨_, rfl⟩
        have ze1 : e1.size ≤ 22 := by rw [← he1]; exact (by have := decB_size q2; unfold spB; simp only [ByteArray.size_append]; have : (⟨#[32]⟩ : ByteArray).size = 1 := rfl; omega)
        obtain ⟨e4, he4⟩ : ∃ d, spB (decB y4) = d := ⟨_, rfl⟩
        have ze4 : e4.size ≤ 22 := by rw [← he4]; exact (by have := decB_size q3; unfold spB; simp only [ByteArray.size_append]; have : (⟨#[32]⟩ : ByteArray).size = 1 := rfl; omega)
        obtain ⟨e5, he5⟩ : ∃ d, spB (decB y5) = d := ⟨_, rfl⟩
        have ze5 : e5.size ≤ 22 := by rw [← he5]; exact (by have := decB_size q4; unfold spB; simp only [ByteArray.size_append]; have : (⟨#[32]⟩ : ByteArray).size = 1 := rfl; omega)
        obtain ⟨bk2, hbk2⟩ : ∃ d, spB (brB y3) = d := ⟨_, rfl⟩
        have zbk2 : bk2.size ≤ 1005 := by rw [← hbk2]; exact (by have := brB_size q5; unfold spB; simp only [ByteArray.size_append]; have : (⟨#[32]⟩ : ByteArray).size = 1 := rfl; omega)
        obtain ⟨en, hen⟩ : ∃ d, eiB y6 ⟨#[32, 110, 105, 108]⟩ ⟨#[32, 118, 97, 108, 117, 101]⟩ = d := ⟨_, rfl⟩
        have zen : en.size ≤ 20 := by rw [← hen]; exact eiB_size _ (by decide) (by decide)
        obtain ⟨ec, hec⟩ : ∃ d, eiB y7 ⟨#[32, 99, 111, 110, 100]⟩ ⟨#[32, 115, 117, 114, 101]⟩ = d := ⟨_, rfl⟩
        have zec : ec.size ≤ 20 := by rw [← hec]; exact eiB_size _ (by decide) (by decide)
        have zob : (⟨#[32, 91]⟩ : ByteArray).size = 2 := rfl
        have zsp : (⟨#[32]⟩ : ByteArray).size = 1 := rfl
        have zcb : (⟨#[32, 93]⟩ : ByteArray).size = 2 := rfl
        obtain ⟨t0, ht0⟩ : ∃ d, (⟨#[32, 91]⟩ : ByteArray) ++ e0 = d := ⟨_, rfl⟩
        have Z_t0 : Hid ((⟨#[32, 91]⟩ : ByteArray).size + e0.size ≤ 9223372036854775807) := by show _ ≤ _; omega
        have zt0 : t0.size ≤ 30 := by rw [← ht0, ByteArray.size_append]; omega
        have E_t0 := hid ht0
        obtain ⟨t1, ht1⟩ : ∃ d, t0 ++ (⟨#[32]⟩ : ByteArray) = d := ⟨_, rfl⟩
        have Z_t1 : Hid (t0.size + (⟨#[32]⟩ : ByteArray).size ≤ 9223372036854775807) := by show _ ≤ _; omega
        have zt1 : t1.size ≤ 40 := by rw [← ht1, ByteArray.size_append]; omega
        have E_t1 := hid ht1
        obtain ⟨t2, ht2⟩ : ∃ d, t1 ++ lw = d := ⟨_, rfl⟩
        have Z_t2 : Hid (t1.size + lw.size ≤ 9223372036854775807) := by show _ ≤ _; omega
        have zt2 : t2.size ≤ 70 := by rw [← ht2, ByteArray.size_append]; omega
        have E_t2 := hid ht2
        obtain ⟨t3, ht3⟩ : ∃ d, t2 ++ e1 = d := ⟨_, rfl⟩
        have Z_t3 : Hid (t2.size + e1.size ≤ 9223372036854775807) := by show _ ≤ _; omega
        have zt3 : t3.size ≤ 100 := by rw [← ht3, ByteArray.size_append]; omega
        have E_t3 := hid ht3
        obtain ⟨t4, ht4⟩ : ∃ d, t3 ++ bk2 = d := ⟨_, rfl⟩
        have Z_t4 : Hid (t3.size + bk2.size ≤ 9223372036854775807) := by show _ ≤ _; omega
        have zt4 : t4.size ≤ 1200 := by rw [← ht4, ByteArray.size_append]; omega
        have E_t4 := hid ht4
        obtain ⟨t5, ht5⟩ : ∃ d, t4 ++ e4 = d := ⟨_, rfl⟩
        have Z_t5 : Hid (t4.size + e4.size ≤ 9223372036854775807) := by show _ ≤ _; omega
        have zt5 : t5.size ≤ 1230 := by rw [← ht5, ByteArray.size_append]; omega
        have E_t5 := hid ht5
        obtain ⟨t6, ht6⟩ : ∃ d, t5 ++ e5 = d := ⟨_, rfl⟩
        have Z_t6 : Hid (t5.size + e5.size ≤ 9223372036854775807) := by show _ ≤ _; omega
        have zt6 : t6.size ≤ 1260 := by rw [← ht6, ByteArray.size_append]; omega
        have E_t6 := hid ht6
        obtain ⟨t7, ht7⟩ : ∃ d, t6 ++ en = d := ⟨_, rfl⟩
        have Z_t7 : Hid (t6.size + en.size ≤ 9223372036854775807) := by show _ ≤ _; omega
        have zt7 : t7.size ≤ 1290 := by rw [← ht7, ByteArray.size_append]; omega
        have E_t7 := hid ht7
        obtain ⟨t8, ht8⟩ : ∃ d, t7 ++ ec = d := ⟨_, rfl⟩
        have Z_t8 : Hid (t7.size + ec.size ≤ 9223372036854775807) := by show _ ≤ _; omega
        have zt8 : t8.size ≤ 1320 := by rw [← ht8, ByteArray.size_append]; omega
        have E_t8 := hid ht8
        obtain ⟨t9, ht9⟩ : ∃ d, t8 ++ (⟨#[32, 93]⟩ : ByteArray) = d := ⟨_, rfl⟩
        have Z_t9 : Hid (t8.size + (⟨#[32, 93]⟩ : ByteArray).size ≤ 9223372036854775807) := by show _ ≤ _; omega
        have zt9 : t9.size ≤ 1330 := by rw [← ht9, ByteArray.size_append]; omega
        have E_t9 := hid ht9
        have SZ2 := SZ.out
        have Z_f : Hid (sb.size + t9.size ≤ 9223372036854775807) := by show _ ≤ _; omega
        have HDP : Hid (dDep (y0, y1, y2, y3, y4, y5, y6, y7) = t9) := by show _ = _; unfold dDep; simp only [hlw, he0, he1, hbk2, he4, he5, hen, hec, ht0, ht1, ht2, ht3, ht4, ht5, ht6, ht7, ht8, ht9]
        have I_e0 : Hid (∀ V, Calls Tryd.prog 18 #[.int .i64 y0] V fun e w' => e = .returned (.string e0) ∧ Below V.heap.size V w') := fun V => by rw [← he0]; exact dnum_is21 y0 q1 V
        have I_e1 : Hid (∀ V, Calls Tryd.prog 18 #[.int .i64 y1] V fun e w' => e = .returned (.string e1) ∧ Below V.heap.size V w') := fun V => by rw [← he1]; exact dnum_is21 y1 q2 V
        have I_e4 : Hid (∀ V, Calls Tryd.prog 18 #[.int .i64 y4] V fun e w' => e = .returned (.string e4) ∧ Below V.heap.size V w') := fun V => by rw [← he4]; exact dnum_is21 y4 q3 V
        have I_e5 : Hid (∀ V, Calls Tryd.prog 18 #[.int .i64 y5] V fun e w' => e = .returned (.string e5) ∧ Below V.heap.size V w') := fun V => by rw [← he5]; exact dnum_is21 y5 q4 V
        have I_bk2 : Hid (∀ V, Calls Tryd.prog 37 #[.string y3] V fun e w' => e = .returned (.string bk2) ∧ Below V.heap.size V w') := fun V => by rw [← hbk2]; exact dkey_is21 y3 q5 V
        have I_lw : Hid (∀ V, Calls Tryd.prog 38 #[.int .i64 y2] V fun e w' => e = .returned (.string lw) ∧ Below V.heap.size V w') := fun V => by rw [← hlw]; exact dlabelW_is21 y2 V
        have I_en : Hid (∀ V, Calls Tryd.prog 19 #[.bool y6, .string ⟨#[32, 110, 105, 108]⟩, .string ⟨#[32, 118, 97, 108, 117, 101]⟩] V fun e w' => e = .returned (.string en) ∧ Below V.heap.size V w') := fun V => by rw [← hen]; exact deither_is21 y6 _ _ V
        have I_ec : Hid (∀ V, Calls Tryd.prog 19 #[.bool y7, .string ⟨#[32, 99, 111, 110, 100]⟩, .string ⟨#[32, 115, 117, 114, 101]⟩] V fun e w' => e = .returned (.string ec) ∧ Below V.heap.size V w') := fun V => by rw [← hec]; exact deither_is21 y7 _ _ V
        have BRU : Hid (Below W.heap.size W U) := BR.out.trans (BU.out.mono BR.out.size)
        have HPO := hid hp
        clear BY A2 q1 q2 q3 q4 q5 SZ2 hlw he0 he1 hbk2 he4 he5 hen hec ht0 ht1 ht2 ht3 ht4 ht5 ht6 ht7 ht8 ht9
        go_wp2_with fail
        clear hU hp
        refine wp_region_then2 Tryd.mixedOrders (by kernel_rfl) 35 40 (fun s_ val => { tmps := #[_, _, _, s_, _, _, _, _, _, _, _, _, _, _, _, _, _, _, _, _, _, _, _, _, _, _, _, _, _, _, _, _, _, _, _, _, _, _, _, _, _, _, _, _, _, _, _, _, val 0, val 1, val 2, val 3, val 4, val 5, val 6, val 7, val 8, val 9, val 10, val 11, val 12, val 13, val 14, val 15, val 16, val 17, val 18, val 19, val 20, val 21, val 22, val 23, val 24, val 25, val 26, val 27, val 28, val 29, val 30, val 31, val 32, val 33, val 34, val 35, _, _, _], defers := [] }) (.string sb) (fun i y V => match i with | 0 => y = .string sb | 1 => y = .pointer (some ⟨p, 0, none⟩) | 2 => y = .int .i64 y0 | 3 => y = .string e0 | 4 => y = .string t0 | 5 => y = .string t1 | 6 => y = .pointer (some ⟨p, 2, none⟩) | 7 => y = .int .i64 y2 | 8 => y = .string lw | 9 => y = .string t2 | 10 => y = .pointer (some ⟨p, 1, none⟩) | 11 => y = .int .i64 y1 | 12 => y = .string e1 | 13 => y = .string t3 | 14 => y = .pointer (some ⟨p, 3, none⟩) | 15 => y = .string y3 | 16 => y = .string bk2 | 17 => y = .string t4 | 18 => y = .pointer (some ⟨p, 4, none⟩) | 19 => y = .int .i64 y4 | 20 => y = .string e4 | 21 => y = .string t5 | 22 => y = .pointer (some ⟨p, 5, none⟩) | 23 => y = .int .i64 y5 | 24 => y = .string e5 | 25 => y = .string t6 | 26 => y = .pointer (some ⟨p, 6, none⟩) | 27 => y = .bool y6 | 28 => y = .string en | 29 => y = .string t7 | 30 => y = .pointer (some ⟨p, 7, none⟩) | 31 => y = .bool y7 | 32 => y = .string ec | 33 => y = .string t8 | 34 => y = .string t9 | _ => True) (fun i => match i with | 0 => u48 | 1 => u49 | 2 => u50 | 3 => u51 | 4 => u52 | 5 => u53 | 6 => u54 | 7 => u55 | 8 => u56 | 9 => u57 | 10 => u58 | 11 => u59 | 12 => u60 | 13 => u61 | 14 => u62 | 15 => u63 | 16 => u64 | 17 => u65 | 18 => u66 | 19 => u67 | 20 => u68 | 21 => u69 | 22 => u70 | 23 => u71 | 24 => u72 | 25 => u73 | 26 => u74 | 27 => u75 | 28 => u76 | 29 => u77 | 30 => u78 | 31 => u79 | 32 => u80 | 33 => u81 | 34 => u82 | 35 => u83 | 36 => (.string sb) | _ => undef) rfl rfl _ rfl rfl _ _ rfl rfl (by kernel_rfl) (by kernel_rfl) rfl rfl (fun _ _ => rfl) (fun _ _ => rfl) (by kernel_rfl) ?_ (fun v V => v = .string (sb ++ t9) ∧ Below W.heap.size W V) ⟨?_, ?_, ?_, ?_, ?_, ?_, ?_, ?_, ?_, ?_, ?_, ?_, ?_, ?_, ?_, ?_, ?_, ?_, ?_, ?_, ?_, ?_, ?_, ?_, ?_, ?_, ?_, ?_, ?_, ?_, ?_, ?_, ?_, ?_, ?_, trivial⟩ ?_ ?_ ?_
        · intro i v w w' h hb
          match i, h with
          | 0, h => exact h
          | 1, h => exact h
          | 2, h => exact h
          | 3, h => exact h
          | 4, h => exact h
          | 5, h => exact h
          | 6, h => exact h
          | 7, h => exact h
          | 8, h => exact h
          | 9, h => exact h
          | 10, h => exact h
          | 11, h => exact h
          | 12, h => exact h
          | 13, h => exact h
          | 14, h => exact h
          | 15, h => exact h
          | 16, h => exact h
          | 17, h => exact h
          | 18, h => exact h
          | 19, h => exact h
          | 20, h => exact h
          | 21, h => exact h
          | 22, h => exact h
          | 23, h => exact h
          | 24, h => exact h
          | 25, h => exact h
          | 26, h => exact h
          | 27, h => exact h
          | 28, h => exact h
          | 29, h => exact h
          | 30, h => exact h
          | 31, h => exact h
          | 32, h => exact h
          | 33, h => exact h
          | 34, h => exact h
          | _ + 35, h => trivial
        · refine ask_plain rfl (fun _ _ => rfl) (fun val V hb hd => ?_)
          refine does_value (v := .string sb) ?_ rfl
          simp [execOp, Act.eval, go_sem]
        · refine ask_plain rfl (fun _ _ => rfl) (fun val V hb hd => ?_)
          refine does_value (v := .pointer (some ⟨p, 0, none⟩)) ?_ rfl
          simp [execOp, Act.eval, go_sem]
        · refine ask_plain rfl (fun _ _ => rfl) (fun val V hb hd => ?_)
          have h1 : val 1 = .pointer (some ⟨p, 0, none⟩) := depsAll_get hd 1 (by kernel_rfl)
          have e_ := rx_later hb f0
          refine does_value (v := .int .i64 y0) ?_ rfl
          simp [execOp, Act.eval, go_sem, h1, e_]
        · refine ask_plain rfl (fun _ _ => rfl) (fun val V hb hd => ?_)
          have h2 : val 2 = .int .i64 y0 := depsAll_get hd 2 (by kernel_rfl)
          refine does_call (f := 18) (args := #[.int .i64 y0]) ?_ (I_e0.out V) ?_
          · simp [execOp, Act.eval, go_sem, resolve, invoke, h2]
          · rintro e w2 ⟨rfl, hb2⟩
            exact ⟨_, rfl, rfl, hb2⟩
        · refine ask_plain rfl (fun _ _ => rfl) (fun val V hb hd => ?_)
          have h3 : val 3 = .string e0 := depsAll_get hd 3 (by kernel_rfl)
          exact does_value (run_add rfl rfl h3 Z_t0.out E_t0.out) rfl
        · refine ask_plain rfl (fun _ _ => rfl) (fun val V hb hd => ?_)
          have h4 : val 4 = .string t0 := depsAll_get hd 4 (by kernel_rfl)
          exact does_value (run_add rfl h4 rfl Z_t1.out E_t1.out) rfl
        · refine ask_plain rfl (fun _ _ => rfl) (fun val V hb hd => ?_)
          refine does_value (v := .pointer (some ⟨p, 2, none⟩)) ?_ rfl
          simp [execOp, Act.eval, go_sem]
        · refine ask_plain rfl (fun _ _ => rfl) (fun val V hb hd => ?_)
          have h6 : val 6 = .pointer (some ⟨p, 2, none⟩) := depsAll_get hd 6 (by kernel_rfl)
          have e_ := rx_later hb f2
          refine does_value (v := .int .i64 y2) ?_ rfl
          simp [execOp, Act.eval, go_sem, h6, e_]
        · refine ask_plain rfl (fun _ _ => rfl) (fun val V hb hd => ?_)
          have h7 : val 7 = .int .i64 y2 := depsAll_get hd 7 (by kernel_rfl)
          refine does_call (f := 38) (args := #[.int .i64 y2]) ?_ (I_lw.out V) ?_
          · simp [execOp, Act.eval, go_sem, resolve, invoke, h7]
          · rintro e w2 ⟨rfl, hb2⟩
            exact ⟨_, rfl, rfl, hb2⟩
        · refine ask_plain rfl (fun _ _ => rfl) (fun val V hb hd => ?_)
          have h5 : val 5 = .string t1 := depsAll_get hd 5 (by kernel_rfl)
          have h8 : val 8 = .string lw := depsAll_get hd 8 (by kernel_rfl)
          exact does_value (run_add rfl h5 h8 Z_t2.out E_t2.out) rfl
        · refine ask_plain rfl (fun _ _ => rfl) (fun val V hb hd => ?_)
          refine does_value (v := .pointer (some ⟨p, 1, none⟩)) ?_ rfl
          simp [execOp, Act.eval, go_sem]
        · refine ask_plain rfl (fun _ _ => rfl) (fun val V hb hd => ?_)
          have h10 : val 10 = .pointer (some ⟨p, 1, none⟩) := depsAll_get hd 10 (by kernel_rfl)
          have e_ := rx_later hb f1
          refine does_value (v := .int .i64 y1) ?_ rfl
          simp [execOp, Act.eval, go_sem, h10, e_]
        · refine ask_plain rfl (fun _ _ => rfl) (fun val V hb hd => ?_)
          have h11 : val 11 = .int .i64 y1 := depsAll_get hd 11 (by kernel_rfl)
          refine does_call (f := 18) (args := #[.int .i64 y1]) ?_ (I_e1.out V) ?_
          · simp [execOp, Act.eval, go_sem, resolve, invoke, h11]
          · rintro e w2 ⟨rfl, hb2⟩
            exact ⟨_, rfl, rfl, hb2⟩
        · refine ask_plain rfl (fun _ _ => rfl) (fun val V hb hd => ?_)
          have h9 : val 9 = .string t2 := depsAll_get hd 9 (by kernel_rfl)
          have h12 : val 12 = .string e1 := depsAll_get hd 12 (by kernel_rfl)
          exact does_value (run_add rfl h9 h12 Z_t3.out E_t3.out) rfl
        · refine ask_plain rfl (fun _ _ => rfl) (fun val V hb hd => ?_)
          refine does_value (v := .pointer (some ⟨p, 3, none⟩)) ?_ rfl
          simp [execOp, Act.eval, go_sem]
        · refine ask_plain rfl (fun _ _ => rfl) (fun val V hb hd => ?_)
          have h14 : val 14 = .pointer (some ⟨p, 3, none⟩) := depsAll_get hd 14 (by kernel_rfl)
          have e_ := rx_later hb f3
          refine does_value (v := .string y3) ?_ rfl
          simp [execOp, Act.eval, go_sem, h14, e_]
        · refine ask_plain rfl (fun _ _ => rfl) (fun val V hb hd => ?_)
          have h15 : val 15 = .string y3 := depsAll_get hd 15 (by kernel_rfl)
          refine does_call (f := 37) (args := #[.string y3]) ?_ (I_bk2.out V) ?_
          · simp [execOp, Act.eval, go_sem, resolve, invoke, h15]
          · rintro e w2 ⟨rfl, hb2⟩
            exact ⟨_, rfl, rfl, hb2⟩
        · refine ask_plain rfl (fun _ _ => rfl) (fun val V hb hd => ?_)
          have h13 : val 13 = .string t3 := depsAll_get hd 13 (by kernel_rfl)
          have h16 : val 16 = .string bk2 := depsAll_get hd 16 (by kernel_rfl)
          exact does_value (run_add rfl h13 h16 Z_t4.out E_t4.out) rfl
        · refine ask_plain rfl (fun _ _ => rfl) (fun val V hb hd => ?_)
          refine does_value (v := .pointer (some ⟨p, 4, none⟩)) ?_ rfl
          simp [execOp, Act.eval, go_sem]
        · refine ask_plain rfl (fun _ _ => rfl) (fun val V hb hd => ?_)
          have h18 : val 18 = .pointer (some ⟨p, 4, none⟩) := depsAll_get hd 18 (by kernel_rfl)
          have e_ := rx_later hb f4
          refine does_value (v := .int .i64 y4) ?_ rfl
          simp [execOp, Act.eval, go_sem, h18, e_]
        · refine ask_plain rfl (fun _ _ => rfl) (fun val V hb hd => ?_)
          have h19 : val 19 = .int .i64 y4 := depsAll_get hd 19 (by kernel_rfl)
          refine does_call (f := 18) (args := #[.int .i64 y4]) ?_ (I_e4.out V) ?_
          · simp [execOp, Act.eval, go_sem, resolve, invoke, h19]
          · rintro e w2 ⟨rfl, hb2⟩
            exact ⟨_, rfl, rfl, hb2⟩
        · refine ask_plain rfl (fun _ _ => rfl) (fun val V hb hd => ?_)
          have h17 : val 17 = .string t4 := depsAll_get hd 17 (by kernel_rfl)
          have h20 : val 20 = .string e4 := depsAll_get hd 20 (by kernel_rfl)
          exact does_value (run_add rfl h17 h20 Z_t5.out E_t5.out) rfl
        · refine ask_plain rfl (fun _ _ => rfl) (fun val V hb hd => ?_)
          refine does_value (v := .pointer (some ⟨p, 5, none⟩)) ?_ rfl
          simp [execOp, Act.eval, go_sem]
        · refine ask_plain rfl (fun _ _ => rfl) (fun val V hb hd => ?_)
          have h22 : val 22 = .pointer (some ⟨p, 5, none⟩) := depsAll_get hd 22 (by kernel_rfl)
          have e_ := rx_later hb f5
          refine does_value (v := .int .i64 y5) ?_ rfl
          simp [execOp, Act.eval, go_sem, h22, e_]
        · refine ask_plain rfl (fun _ _ => rfl) (fun val V hb hd => ?_)
          have h23 : val 23 = .int .i64 y5 := depsAll_get hd 23 (by kernel_rfl)
          refine does_call (f := 18) (args := #[.int .i64 y5]) ?_ (I_e5.out V) ?_
          · simp [execOp, Act.eval, go_sem, resolve, invoke, h23]
          · rintro e w2 ⟨rfl, hb2⟩
            exact ⟨_, rfl, rfl, hb2⟩
        · refine ask_plain rfl (fun _ _ => rfl) (fun val V hb hd => ?_)
          have h21 : val 21 = .string t5 := depsAll_get hd 21 (by kernel_rfl)
          have h24 : val 24 = .string e5 := depsAll_get hd 24 (by kernel_rfl)
          exact does_value (run_add rfl h21 h24 Z_t6.out E_t6.out) rfl
        · refine ask_plain rfl (fun _ _ => rfl) (fun val V hb hd => ?_)
          refine does_value (v := .pointer (some ⟨p, 6, none⟩)) ?_ rfl
          simp [execOp, Act.eval, go_sem]
        · refine ask_plain rfl (fun _ _ => rfl) (fun val V hb hd => ?_)
          have h26 : val 26 = .pointer (some ⟨p, 6, none⟩) := depsAll_get hd 26 (by kernel_rfl)
          have e_ := rx_later hb f6
          refine does_value (v := .bool y6) ?_ rfl
          simp [execOp, Act.eval, go_sem, h26, e_]
        · refine ask_plain rfl (fun _ _ => rfl) (fun val V hb hd => ?_)
          have h27 : val 27 = .bool y6 := depsAll_get hd 27 (by kernel_rfl)
          refine does_call (f := 19) (args := #[.bool y6, .string ⟨#[32, 110, 105, 108]⟩, .string ⟨#[32, 118, 97, 108, 117, 101]⟩]) ?_ (I_en.out V) ?_
          · simp [execOp, Act.eval, go_sem, resolve, invoke, h27]
          · rintro e w2 ⟨rfl, hb2⟩
            exact ⟨_, rfl, rfl, hb2⟩
        · refine ask_plain rfl (fun _ _ => rfl) (fun val V hb hd => ?_)
          have h25 : val 25 = .string t6 := depsAll_get hd 25 (by kernel_rfl)
          have h28 : val 28 = .string en := depsAll_get hd 28 (by kernel_rfl)
          exact does_value (run_add rfl h25 h28 Z_t7.out E_t7.out) rfl
        · refine ask_plain rfl (fun _ _ => rfl) (fun val V hb hd => ?_)
          refine does_value (v := .pointer (some ⟨p, 7, none⟩)) ?_ rfl
          simp [execOp, Act.eval, go_sem]
        · refine ask_plain rfl (fun _ _ => rfl) (fun val V hb hd => ?_)
          have h30 : val 30 = .pointer (some ⟨p, 7, none⟩) := depsAll_get hd 30 (by kernel_rfl)
          have e_ := rx_later hb f7
          refine does_value (v := .bool y7) ?_ rfl
          simp [execOp, Act.eval, go_sem, h30, e_]
        · refine ask_plain rfl (fun _ _ => rfl) (fun val V hb hd => ?_)
          have h31 : val 31 = .bool y7 := depsAll_get hd 31 (by kernel_rfl)
          refine does_call (f := 19) (args := #[.bool y7, .string ⟨#[32, 99, 111, 110, 100]⟩, .string ⟨#[32, 115, 117, 114, 101]⟩]) ?_ (I_ec.out V) ?_
          · simp [execOp, Act.eval, go_sem, resolve, invoke, h31]
          · rintro e w2 ⟨rfl, hb2⟩
            exact ⟨_, rfl, rfl, hb2⟩
        · refine ask_plain rfl (fun _ _ => rfl) (fun val V hb hd => ?_)
          have h29 : val 29 = .string t7 := depsAll_get hd 29 (by kernel_rfl)
          have h32 : val 32 = .string ec := depsAll_get hd 32 (by kernel_rfl)
          exact does_value (run_add rfl h29 h32 Z_t8.out E_t8.out) rfl
        · refine ask_plain rfl (fun _ _ => rfl) (fun val V hb hd => ?_)
          have h33 : val 33 = .string t8 := depsAll_get hd 33 (by kernel_rfl)
          exact does_value (run_add rfl h33 rfl Z_t9.out E_t9.out) rfl
        · intro val V hb hd K hK
          have h0 : val 0 = .string sb := depsAll_get hd 0 (by kernel_rfl)
          have h34 : val 34 = .string t9 := depsAll_get hd 34 (by kernel_rfl)
          unfold Oper.wp
          rw [run_add rfl h0 h34 Z_f.out rfl]
          exact hK _ V ⟨rfl, BRU.out.trans (hb.mono BRU.out.size)⟩
        · intro val V
          simp [execOp, Act.eval, go_sem]
        · rintro val V ⟨hs, hbV⟩
          have HB := hid hbV
          clear hbV
          simp only [hs]
          go_wp2_with fail
          go_roundg (cyc.length - (k + 1))
          case measure => omega
          case rel =>
            refine ⟨k + 1, sb ++ t9, by omega, by omega, by go_num, by first | rfl | exact hs, ?_, ?_, HB.out⟩
            · show sb ++ t9 = _
              rw [catW_take hlt HX.out, HDP.out, SE.out, ByteArray.append_assoc]
            · show (sb ++ t9).size ≤ _
              have := SZ.out
              rw [ByteArray.size_append]
              omega
      · obtain rfl : k = cyc.length := by omega
        have ZL : Hid (sb.size + (⟨#[10]⟩ : ByteArray).size ≤ 9223372036854775807) := by
          show _ ≤ _
          have := SZ.out
          have : (⟨#[10]⟩ : ByteArray).size = 1 := rfl
          omega
        have hsz := ZL.out
        go_wp2_with fail
        go_ret
        refine ⟨⟨_, rfl, ?_⟩, BW1.out.trans (BR.out.mono BW1.out.size)⟩
        rw [SE.out, List.take_of_length_le (Nat.le_refl _), HDD.out]
end Go.Proofs.YtkpomcimaofkkaaDoor.Rp
