/-
  What is printed of a report that may be is read back as it.
  The document's line of an anomaly is the code's.
  The document's Print of a report, plain: its text is the code's.
  The document's Can: keys, labels, an anomaly, a report.
-/
import Derived.Test.YtkpomcimaofkkaaDoorV9
import Derived.Test.YtkpomcimaofkkaaDoorV10
namespace Go.Proofs.YtkpomcimaofkkaaDoor.Rp
set_option linter.unusedVariables false
set_option linter.unusedSimpArgs false
open Go.RowKit Go.Lib

theorem joinTail_app (a b : List Bs) : Lib.joinTail [32] (a ++ b) = Lib.joinTail [32] a ++ Lib.joinTail [32] b := by simp [Lib.joinTail]
/-! The tokens are as scanning makes them. -/
end Go.Proofs.YtkpomcimaofkkaaDoor.Rp
namespace Go.Proofs.YtkpomcimaofkkaaDoor.Rp
set_option linter.unusedVariables false
set_option linter.unusedSimpArgs false
open Go.RowKit Go.Lib

theorem ei_sp (b : Bool) : (eiB b ⟨#[32, 114, 101, 97, 108, 32]⟩ ⟨#[32, 112, 108, 97, 105, 110, 32]⟩).data.toList = 32 :: ((eiB b wReal wPlain).data.toList ++ [32]) := by cases b <;> rfl
theorem ei_nil (b : Bool) : (eiB b ⟨#[32, 110, 105, 108]⟩ ⟨#[32, 118, 97, 108, 117, 101]⟩).data.toList = 32 :: (eiB b wNil wValue).data.toList := by cases b <;> rfl
theorem ei_cond (b : Bool) : (eiB b ⟨#[32, 99, 111, 110, 100]⟩ ⟨#[32, 115, 117, 114, 101]⟩).data.toList = 32 :: (eiB b wCond wSure).data.toList := by cases b <;> rfl
theorem spB_data (x : ByteArray) : (spB x).data.toList = 32 :: x.data.toList := by simp [spB, ByteArray.data_append]
theorem tail_cons (x : Bs) (r : List Bs) : Lib.joinTail [32] (x :: r) = 32 :: (x ++ Lib.joinTail [32] r) := by simp [Lib.joinTail]
theorem tail_nil : Lib.joinTail [32] [] = [] := rfl
theorem dDep_data (x : MW) : (dDep x).data.toList = Lib.joinTail [32] ((wParts x).map (·.data.toList)) := by
  simp only [dDep, wParts, ByteArray.data_append, Array.toList_append, spB_data, ei_nil, ei_cond, List.map_cons, List.map_nil, tail_cons, tail_nil, List.append_assoc, List.cons_append, List.nil_append, List.append_nil]
  rfl
theorem catW_data (l : List MW) : (catW l).data.toList = Lib.joinTail [32] ((l.flatMap wParts).map (·.data.toList)) := by
  induction l with
  | nil => rfl
  | cons x l ih =>
    show (dDep x ++ catW l).data.toList = _
    rw [ByteArray.data_append, Array.toList_append, ih, dDep_data, List.flatMap_cons, List.map_append, joinTail_app]
theorem dan_line (a : MA) : (dHead a ++ catW a.cyc ++ ⟨#[10]⟩).data.toList = lineB (aParts a) := by
  unfold lineB aParts
  rw [List.map_append]
  simp only [aHead, List.map_cons, List.map_nil, List.cons_append, List.nil_append, Lib.join_cons, tail_cons, ← catW_data]
  simp only [dHead, ByteArray.data_append, Array.toList_append, spB_data, ei_sp, List.append_assoc, List.cons_append, List.nil_append]
  rfl
end Go.Proofs.YtkpomcimaofkkaaDoor.Rp
namespace Go.Proofs.YtkpomcimaofkkaaDoor.Rp
set_option linter.unusedVariables false
set_option linter.unusedSimpArgs false
open Go.RowKit Go.Lib

/-- The first two lines. -/
def dTop (t : Int) (u : Bool) : ByteArray := ⟨#[116, 120, 110, 115]⟩ ++ spB (decB t) ++ ⟨#[10, 117, 110, 105, 113, 117, 101, 32]⟩ ++ eiB u wYes wNo ++ ⟨#[10]⟩
theorem dTop_data (t : Int) (u : Bool) : (dTop t u).data.toList = lineB [wTxns, decB t] ++ lineB [wUnique, eiB u wYes wNo] := by
  simp only [dTop, lineB, List.map_cons, List.map_nil, Lib.join_cons, tail_cons, tail_nil, ByteArray.data_append, Array.toList_append, spB_data, List.append_assoc, List.cons_append, List.nil_append]
  rfl
/-- An anomaly's line. -/
def dLine (a : MA) : ByteArray := dHead a ++ catW a.cyc ++ ⟨#[10]⟩
def catA : List MA → ByteArray
  | [] => ⟨#[]⟩
  | a :: l => dLine a ++ catA l
theorem catA_snoc (l : List MA) (a : MA) : catA (l ++ [a]) = catA l ++ dLine a := by
  induction l with
  | nil =>
    show dLine a ++ ⟨#[]⟩ = ⟨#[]⟩ ++ dLine a
    apply eq_of_data
    simp [ByteArray.data_append]
  | cons y l ih =>
    show dLine y ++ catA (l ++ [a]) = dLine y ++ catA l ++ dLine a
    rw [ih, ByteArray.append_assoc]
theorem catA_take {l : List MA} {k : Nat} {a : MA} (hk : k < l.length) (hx : l.getD k default = a) : catA (l.take (k + 1)) = catA (l.take k) ++ dLine a := by
  rw [List.take_succ_eq_append_getElem hk, catA_snoc]
  have e : l[k] = a := by rw [← hx]; simp [List.getD, List.getElem?_eq_getElem hk]
  rw [e]
theorem catA_data (l : List MA) : (catA l).data.toList = l.flatMap (fun a => lineB (aParts a)) := by
  induction l with
  | nil => rfl
  | cons a l ih =>
    show (dLine a ++ catA l).data.toList = _
    rw [ByteArray.data_append, Array.toList_append, ih, List.flatMap_cons]
    congr 1
    exact dan_line a
/-- The order's numbers. -/
def catN : List Int → ByteArray
  | [] => ⟨#[]⟩
  | n :: l => spB (decB n) ++ catN l
theorem catN_snoc (l : List Int) (n : Int) : catN (l ++ [n]) = catN l ++ spB (decB n) := by
  induction l with
  | nil =>
    show spB (decB n) ++ ⟨#[]⟩ = ⟨#[]⟩ ++ spB (decB n)
    apply eq_of_data
    simp [ByteArray.data_append]
  | cons y l ih =>
    show spB (decB y) ++ catN (l ++ [n]) = spB (decB y) ++ catN l ++ spB (decB n)
    rw [ih, ByteArray.append_assoc]
theorem catN_take {l : List Int} {k : Nat} {n : Int} (hk : k < l.length) (hx : l.getD k default = n) : catN (l.take (k + 1)) = catN (l.take k) ++ spB (decB n) := by
  rw [List.take_succ_eq_append_getElem hk, catN_snoc]
  have e : l[k] = n := by rw [← hx]; simp [List.getD, List.getElem?_eq_getElem hk]
  rw [e]
theorem catN_data (l : List Int) : (catN l).data.toList = Lib.joinTail [32] ((l.map decB).map (·.data.toList)) := by
  induction l with
  | nil => rfl
  | cons n l ih =>
    show (spB (decB n) ++ catN l).data.toList = _
    rw [ByteArray.data_append, Array.toList_append, ih, spB_data, List.map_cons, List.map_cons, tail_cons]
    rfl
/-- The level's line, and the answer's word. -/
def dLev (e x : Int) : ByteArray := ⟨#[108, 101, 118, 101, 108, 32]⟩ ++ nameN e ++ ⟨#[10, 97, 110, 115, 119, 101, 114, 32]⟩ ++ wordN answerWs x
theorem dLev_no (e x : Int) (os : List Int) (hx : ¬ x = 1) : (dLev e x ++ ⟨#[10]⟩).data.toList = lineB [wLevel, nameN e] ++ lineB (ansParts x os) := by
  unfold ansParts
  rw [if_neg hx]
  simp only [dLev, lineB, List.map_cons, List.map_nil, List.append_nil, Lib.join_cons, tail_cons, tail_nil, ByteArray.data_append, Array.toList_append, spB_data, List.append_assoc, List.cons_append, List.nil_append]
  rfl
theorem dLev_yes (e : Int) (os : List Int) : (dLev e 1 ++ ⟨#[32, 40]⟩ ++ catN os ++ ⟨#[32, 41]⟩ ++ ⟨#[10]⟩).data.toList = lineB [wLevel, nameN e] ++ lineB (ansParts 1 os) := by
  unfold ansParts
  rw [if_pos rfl]
  simp only [dLev, lineB, List.map_cons, List.map_nil, List.map_append, List.append_nil, Lib.join_cons, tail_cons, tail_nil, joinTail_app, ← catN_data, ByteArray.data_append, Array.toList_append, spB_data, List.append_assoc, List.cons_append, List.nil_append]
  rfl
/-- What the document prints. -/
def dText (r : MR) : ByteArray := if r.2.2.2.2.1 = 1 then dTop r.1 r.2.1 ++ catA r.2.2.1 ++ dLev r.2.2.2.1 1 ++ ⟨#[32, 40]⟩ ++ catN r.2.2.2.2.2 ++ ⟨#[32, 41]⟩ ++ ⟨#[10]⟩ else dTop r.1 r.2.1 ++ catA r.2.2.1 ++ dLev r.2.2.2.1 r.2.2.2.2.1 ++ ⟨#[10]⟩
theorem dText_data (r : MR) : (dText r).data.toList = printB r := by
  obtain ⟨t, u, al, e, x, os⟩ := r
  unfold dText printB
  simp only
  by_cases hx : x = 1
  · subst hx
    rw [if_pos rfl]
    have h := dLev_yes e os
    simp only [ByteArray.data_append, Array.toList_append, List.append_assoc] at h
    simp only [ByteArray.data_append, Array.toList_append, List.append_assoc, catA_data, dTop_data, h]
  · rw [if_neg hx]
    have h := dLev_no e x os hx
    simp only [ByteArray.data_append, Array.toList_append, List.append_assoc] at h
    simp only [ByteArray.data_append, Array.toList_append, List.append_assoc, catA_data, dTop_data, h]
end Go.Proofs.YtkpomcimaofkkaaDoor.Rp
namespace Go.Proofs.YtkpomcimaofkkaaDoor.Rp
set_option linter.unusedVariables false
set_option linter.unusedSimpArgs false
open Go.RowKit Go.Lib

set_option maxHeartbeats 2000000 in
set_option maxRecDepth 100000 in
theorem dKeyN_is (s : ByteArray) (w : World) (hs : s.size ≤ 9223372036854775806) : Calls Tryd.prog 44 #[.string s] w fun e w' => e = .returned (.bool (keyN s)) ∧ w = w' := by
  have K := hid (refKey_any s w hs)
  unfold keyN
  cases h : s.toList with
  | nil =>
    have he : s.toList.isEmpty = true := by rw [h]; rfl
    have h2 : (s.toList == []) = true := by rw [h]; rfl
    clear h
    go_enter Tryd.func44, Tryd.ntmps44
    go_wp2_with fail
    go_ret
    exact ⟨by simp, rfl⟩
  | cons x xs =>
    have he : s.toList.isEmpty = false := by rw [h]; rfl
    have h2 : (s.toList == []) = false := by rw [h]; rfl
    have h3 : ¬ s.toList = [] := by rw [h]; simp
    clear h
    go_enter Tryd.func44, Tryd.ntmps44
    go_wp2_with fail
    go_at_call 51
    refine K.out.mono ?_
    rintro e w' ⟨rfl, rfl⟩
    go_wp2_with fail
    go_ret
    exact ⟨by simp, rfl⟩
set_option maxHeartbeats 4000000 in
set_option maxRecDepth 100000 in
theorem dlabel_is (k : Int) (w : World) : Calls Tryd.prog 38 #[.int .i64 k] w fun e w' => e = .returned (.string (wordN labelWs k)) ∧ w = w' := by
  by_cases h1 : k = 1
  · subst h1
    go_enter Tryd.func38, Tryd.ntmps38
    go_wp2_with fail
    go_ret
    exact ⟨rfl, rfl⟩
  by_cases h2 : k = 2
  · subst h2
    go_enter Tryd.func38, Tryd.ntmps38
    go_wp2_with fail
    go_ret
    exact ⟨rfl, rfl⟩
  by_cases h4 : k = 4
  · subst h4
    go_enter Tryd.func38, Tryd.ntmps38
    go_wp2_with fail
    go_ret
    exact ⟨rfl, rfl⟩
  by_cases h8 : k = 8
  · subst h8
    go_enter Tryd.func38, Tryd.ntmps38
    go_wp2_with fail
    go_ret
    exact ⟨rfl, rfl⟩
  have HE : Hid (wordN labelWs k = ⟨#[]⟩) := by
    show _ = _
    unfold wordN
    by_cases hr : 0 ≤ k ∧ k < (labelWs.length : Nat)
    · rw [if_pos hr]
      have h3 : k < 9 := hr.2
      rcases (by omega : k = 0 ∨ k = 3 ∨ k = 5 ∨ k = 6 ∨ k = 7) with rfl | rfl | rfl | rfl | rfl <;> rfl
    · rw [if_neg hr]
  have b1 : (k == 1) = false := by simpa using h1
  have b2 : (k == 2) = false := by simpa using h2
  have b4 : (k == 4) = false := by simpa using h4
  have b8 : (k == 8) = false := by simpa using h8
  go_enter Tryd.func38, Tryd.ntmps38
  go_wp2_with fail
  go_ret
  exact ⟨by rw [HE.out]; rfl, rfl⟩
set_option maxHeartbeats 8000000 in
set_option maxRecDepth 100000 in
theorem dmay_is {S : Nat → Prop} (x0 x1 x2 x3 : Int) (x4 : ByteArray) (x5 : Int) (ca : Option Addr) (cyc : List MW) (cc : Nat) (x7 : Bool) (x8 : Int) (w : World) (hcy : WhysS S w (.slice ca cyc.length cc) cyc) (hsm : SmA (x0, x1, x2, x3, x4, x5, cyc, x7, x8)) :
    Calls Tryd.prog 27 #[.agg #[.int .i64 x0, .int .i64 x1, .int .i64 x2, .int .i64 x3, .string x4, .int .i64 x5, .slice ca cyc.length cc, .bool x7, .int .i64 x8]] w fun e w' => e = .returned (.bool (!wrongA (x0, x1, x2, x3, x4, x5, cyc, x7, x8))) ∧ Below w.heap.size w w' := by
  have hs4 : x4.size ≤ 9223372036854775806 := by have h1 : x4.size ≤ 140737488355328 := hsm.1; omega
  obtain ⟨W, hW⟩ : ∃ W, w.alloc (.cells #[.int .i64 x0, .int .i64 x1, .int .i64 x2, .int .i64 x3, .string x4, .int .i64 x5, .slice ca cyc.length cc, .bool x7, .int .i64 x8] 46) = W := ⟨_, rfl⟩
  obtain ⟨o, ho⟩ : ∃ o, w.heap.size = o := ⟨_, rfl⟩
  have BW1 : Hid (Below w.heap.size w W) := by rw [← hW]; exact below_box _ _
  have BX : BoxW W o 46 #[.int .i64 x0, .int .i64 x1, .int .i64 x2, .int .i64 x3, .string x4, .int .i64 x5, .slice ca cyc.length cc, .bool x7, .int .i64 x8] := by rw [← hW, ← ho]; exact box_new _ _ _
  have c0 : W.cell? ⟨o, 0, none⟩ = some (.int .i64 x0) := BX.cell 0
  have c4 : W.cell? ⟨o, 4, none⟩ = some (.string x4) := BX.cell 4
  have c6 : W.cell? ⟨o, 6, none⟩ = some (.slice ca cyc.length cc) := BX.cell 6
  have c8 : W.cell? ⟨o, 8, none⟩ = some (.int .i64 x8) := BX.cell 8
  have HW : Hid (wrongA (x0, x1, x2, x3, x4, x5, cyc, x7, x8) = (((((decide (x0 < 1) || decide (11 < x0)) || !keyN x4) || !levelN x8) || decide ((300 : Int) < (cyc.length : Int))) || cyc.any wrongD)) := by show ((((((wordN kindWs x0).toList == (⟨#[]⟩ : ByteArray).toList) || !keyN x4) || !levelN x8) || decide ((300 : Int) < (cyc.length : Int))) || cyc.any wrongD) = _; rw [kind_word_is]
  have HC := hid hcy
  have HSM := hid hsm
  have KN := hid (fun V => dKeyN_is x4 V hs4)
  obtain ⟨q, hq⟩ : ∃ q, keyN x4 = q := ⟨_, rfl⟩
  rw [hq] at HW KN
  clear hq BX hcy hsm hs4
  by_cases h1 : x0 < 1
  · have HT : Hid (wrongA (x0, x1, x2, x3, x4, x5, cyc, x7, x8) = true) := by show _ = _; rw [HW.out]; simp [h1]
    clear HW HC HSM
    go_enter Tryd.func27, Tryd.ntmps27
    go_wp2_with (go_at_call 44; refine (KN.out _).mono ?_; rintro e w2 ⟨rfl, rfl⟩)
    go_ret
    exact ⟨by rw [HT.out]; rfl, by first | exact BW1.out | (rw [← ho]; exact BW1.out)⟩
  by_cases h2 : 11 < x0
  · have HT : Hid (wrongA (x0, x1, x2, x3, x4, x5, cyc, x7, x8) = true) := by show _ = _; rw [HW.out]; simp [h2]
    clear HW HC HSM
    go_enter Tryd.func27, Tryd.ntmps27
    go_wp2_with (go_at_call 44; refine (KN.out _).mono ?_; rintro e w2 ⟨rfl, rfl⟩)
    go_ret
    exact ⟨by rw [HT.out]; rfl, by first | exact BW1.out | (rw [← ho]; exact BW1.out)⟩
  cases q with
  | false =>
    have HT : Hid (wrongA (x0, x1, x2, x3, x4, x5, cyc, x7, x8) = true) := by show _ = _; rw [HW.out]; simp
    clear HW HC HSM
    go_enter Tryd.func27, Tryd.ntmps27
    go_wp2_with (go_at_call 44; refine (KN.out _).mono ?_; rintro e w2 ⟨rfl, rfl⟩)
    go_ret
    exact ⟨by rw [HT.out]; rfl, by first | exact BW1.out | (rw [← ho]; exact BW1.out)⟩
  | true =>
    have HL : levelN x8 = (decide (0 ≤ x8) && decide (x8 < 6)) := rfl
    by_cases h3 : x8 < 0
    · have h9 : ¬ 0 ≤ x8 := by omega
      have HT : Hid (wrongA (x0, x1, x2, x3, x4, x5, cyc, x7, x8) = true) := by show _ = _; rw [HW.out, HL]; simp [h9]
      clear HW HC HSM HL h9
      go_enter Tryd.func27, Tryd.ntmps27
      go_wp2_with (go_at_call 44; refine (KN.out _).mono ?_; rintro e w2 ⟨rfl, rfl⟩)
      go_ret
      exact ⟨by rw [HT.out]; rfl, by first | exact BW1.out | (rw [← ho]; exact BW1.out)⟩
    by_cases h4 : 5 < x8
    · have h9 : ¬ x8 < 6 := by omega
      have HT : Hid (wrongA (x0, x1, x2, x3, x4, x5, cyc, x7, x8) = true) := by show _ = _; rw [HW.out, HL]; simp [h9]
      clear HW HC HSM HL h9
      go_enter Tryd.func27, Tryd.ntmps27
      go_wp2_with (go_at_call 44; refine (KN.out _).mono ?_; rintro e w2 ⟨rfl, rfl⟩)
      go_ret
      exact ⟨by rw [HT.out]; rfl, by first | exact BW1.out | (rw [← ho]; exact BW1.out)⟩
    by_cases h5 : (300 : Int) < (cyc.length : Int)
    · have HT : Hid (wrongA (x0, x1, x2, x3, x4, x5, cyc, x7, x8) = true) := by show _ = _; rw [HW.out]; simp [h5]
      clear HW HC HSM HL
      go_enter Tryd.func27, Tryd.ntmps27
      go_wp2_with (go_at_call 44; refine (KN.out _).mono ?_; rintro e w2 ⟨rfl, rfl⟩)
      go_ret
      exact ⟨by rw [HT.out]; rfl, by first | exact BW1.out | (rw [← ho]; exact BW1.out)⟩
    have HR : Hid (wrongA (x0, x1, x2, x3, x4, x5, cyc, x7, x8) = cyc.any wrongD) := by
      show _ = _
      have h8 : 0 ≤ x8 := by omega
      have h9 : x8 < 6 := by omega
      rw [HW.out, HL]
      simp [h1, h2, h5, h8, h9]
    clear HW HL
    go_enter Tryd.func27, Tryd.ntmps27
    go_wp2_with (go_at_call 44; refine (KN.out _).mono ?_; rintro e w2 ⟨rfl, rfl⟩)
    clear hW ho c0 c4 c6 c8 h1 h2 h3 h4 h5
    go_loopg [38] cyc.length (fun gg i wr => ∃ k : Nat, k ≤ cyc.length ∧ cyc.length - k ≤ gg ∧ i = .int .i64 k ∧ Aside (∀ j, j < k → wrongD (cyc.getD j default) = false) ∧ Aside (Below W.heap.size W wr))
    case atStart => exact ⟨0, Nat.zero_le _, by omega, rfl, fun j hj => by omega, Below.refl _ _⟩
    case round =>
      obtain ⟨k, hk, hg, rfl, NX, BX⟩ := hrel
      have BWR : Hid (Below w.heap.size w wr) := BW1.out.trans (BX.out.mono BW1.out.size)
      by_cases hlt : k < cyc.length
      · have hlti : (k : Int) < cyc.length := by omega
        have hk0 : (0 : Int) ≤ k := by omega
        have HR2 := RowsIn.keep HC.out (by omega) (fun _ _ h => h) (keeps_below BWR.out) (fun _ _ h => h)
        obtain ⟨ao2, c2, e2, _, hrc⟩ := Tx.RowsIn.cells HR2 (by omega)
        obtain ⟨b, off, cs, hab, hbl, hlen, hrow, hcs⟩ := hrc k hlt
        simp only [Value.slice.injEq, true_and] at e2
        obtain ⟨e2, e3⟩ := e2
        subst hab
        subst e2
        subst e3
        obtain ⟨⟨y0, y1, y2, y3, y4, y5, y6, y7⟩, hx⟩ : ∃ x, cyc.getD k default = x := ⟨_, rfl⟩
        rw [hx] at hrow
        subst hrow
        have HX := hid hx
        have hs3 : y3.size ≤ 9223372036854775806 := by have h1 := HSM.out.2 (cyc.getD k default) (by rw [List.getD, List.getElem?_eq_getElem hlt]; exact List.getElem_mem _); rw [hx] at h1; have h2 : y3.size ≤ 140737488355328 := h1; omega
        clear hx HR2 hrc
        have k0 : wr.cell? ⟨b, off + k * 8, none⟩ = some (.int .i64 y0) := by simpa using hcs 0 (.int .i64 y0) rfl
        have k1 : wr.cell? ⟨b, off + k * 8 + 1, none⟩ = some (.int .i64 y1) := by simpa using hcs 1 (.int .i64 y1) rfl
        have k2 : wr.cell? ⟨b, off + k * 8 + 2, none⟩ = some (.int .i64 y2) := by simpa using hcs 2 (.int .i64 y2) rfl
        have k3 : wr.cell? ⟨b, off + k * 8 + 3, none⟩ = some (.string y3) := by simpa using hcs 3 (.string y3) rfl
        have k4 : wr.cell? ⟨b, off + k * 8 + 4, none⟩ = some (.int .i64 y4) := by simpa using hcs 4 (.int .i64 y4) rfl
        have k5 : wr.cell? ⟨b, off + k * 8 + 5, none⟩ = some (.int .i64 y5) := by simpa using hcs 5 (.int .i64 y5) rfl
        have k6 : wr.cell? ⟨b, off + k * 8 + 6, none⟩ = some (.bool y6) := by simpa using hcs 6 (.bool y6) rfl
        have k7 : wr.cell? ⟨b, off + k * 8 + 7, none⟩ = some (.bool y7) := by simpa using hcs 7 (.bool y7) rfl
        clear hcs hlen
        obtain ⟨W2, hW2⟩ : ∃ W2, wr.alloc (.cells #[.int .i64 y0, .int .i64 y1, .int .i64 y2, .string y3, .int .i64 y4, .int .i64 y5, .bool y6, .bool y7] 59) = W2 := ⟨_, rfl⟩
        obtain ⟨oy, hoy⟩ : ∃ oy, wr.heap.size = oy := ⟨_, rfl⟩
        have B2 := below_box wr (.cells #[.int .i64 y0, .int .i64 y1, .int .i64 y2, .string y3, .int .i64 y4, .int .i64 y5, .bool y6, .bool y7] 59)
        rw [hW2] at B2
        have XY : BoxW W2 oy 59 #[.int .i64 y0, .int .i64 y1, .int .i64 y2, .string y3, .int .i64 y4, .int .i64 y5, .bool y6, .bool y7] := by rw [← hW2, ← hoy]; exact box_new _ _ _
        have n2 : W2.cell? ⟨oy, 2, none⟩ = some (.int .i64 y2) := XY.cell 2
        have n3 : W2.cell? ⟨oy, 3, none⟩ = some (.string y3) := XY.cell 3
        have BB := hid (BX.out.trans (B2.mono BX.out.size))
        have LB := hid (dlabel_is y2 W2)
        have KY := hid (dKeyN_is y3 W2 hs3)
        obtain ⟨lb, hlb⟩ : ∃ lb, wordN labelWs y2 = lb := ⟨_, rfl⟩
        rw [hlb] at LB
        have EW : Hid (wrongD (cyc.getD k default) = (lb.toList.isEmpty || !keyN y3)) := by show _ = _; rw [HX.out]; show ((wordN labelWs y2).toList == (⟨#[]⟩ : ByteArray).toList || !keyN y3) = _; rw [hlb, list_nil]
        clear hlb B2 XY hs3
        cases he : lb.toList.isEmpty with
        | true =>
          have hne : lb.toList = [] := by simpa using he
          have HT : Hid (wrongD (cyc.getD k default) = true) := by show _ = _; rw [EW.out, he]; rfl
          have EA : Hid (cyc.any wrongD = true) := any_at hlt HT.out
          clear EW HT
          go_wp2_with (go_at_call 38; refine LB.out.mono ?_; rintro e w3 ⟨rfl, rfl⟩)
          go_ret
          exact ⟨by rw [HR.out, EA.out]; rfl, BW1.out.trans (BB.out.mono BW1.out.size)⟩
        | false =>
          have hne : ¬ lb.toList = [] := by intro c; rw [c] at he; cases he
          have hneb : (lb.toList == []) = false := by simpa using hne
          cases hky : keyN y3 with
          | false =>
            rw [hky] at KY
            have HT : Hid (wrongD (cyc.getD k default) = true) := by show _ = _; rw [EW.out, hky]; simp
            have EA : Hid (cyc.any wrongD = true) := any_at hlt HT.out
            clear EW HT hky
            go_wp2_with (first | (go_at_call 38; refine LB.out.mono ?_; rintro e w3 ⟨rfl, rfl⟩) | (go_at_call 44; refine KY.out.mono ?_; rintro e w3 ⟨rfl, rfl⟩))
            go_ret
            exact ⟨by rw [HR.out, EA.out]; rfl, BW1.out.trans (BB.out.mono BW1.out.size)⟩
          | true =>
            rw [hky] at KY
            have EX : Hid (∀ j, j < k + 1 → wrongD (cyc.getD j default) = false) := fun j hj => by
              by_cases e : j = k
              · subst e
                rw [EW.out, he, hky]; rfl
              · exact NX.out j (by omega)
            clear EW hky NX
            go_wp2_with (first | (go_at_call 38; refine LB.out.mono ?_; rintro e w3 ⟨rfl, rfl⟩) | (go_at_call 44; refine KY.out.mono ?_; rintro e w3 ⟨rfl, rfl⟩))
            go_roundg (cyc.length - (k + 1))
            case measure => omega
            case rel => exact ⟨k + 1, by omega, by omega, by go_num, EX.out, BB.out⟩
      · have hlti : ¬ (k : Int) < cyc.length := by omega
        have EA : Hid (cyc.any wrongD = false) := any_none (fun j hj => NX.out j (by omega))
        clear NX
        go_wp2_with fail
        go_ret
        exact ⟨by rw [HR.out, EA.out]; rfl, BWR.out⟩
end Go.Proofs.YtkpomcimaofkkaaDoor.Rp
