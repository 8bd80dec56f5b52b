/-
  ReportLines: empty lines, and blanks, play no part in a report's text.
  From a reading of a report as data to the report in memory: its ints have 64 bits, its keys are no longer than a machine holds.
-/
import Derived.Test.YtkpomcimaofkkaaGreatDoorU35
import Derived.Test.YtkpomcimaofkkaaGreatDoorU36
import Derived.Lib.ReplaceLaws
import Derived.Lib.Replace
import Derived.Test.YtkpomcimaofkkaaGreatDoorU26
import Derived.Test.YtkpomcimaofkkaaGreatDoorU31
import Derived.Deep.Slices
import Derived.OpenShut
import Derived.SizedLaws
namespace Go.Proofs.YtkpomcimaofkkaaGreatDoor.Rp
set_option linter.unusedVariables false
set_option linter.unusedSimpArgs false
open Go.RowKit Go.Lib

theorem index10_hit (r : List UInt8) : Lib.index (10 :: r) [10] = 0 := by
  unfold Lib.index
  rw [if_pos (by simp [List.isPrefixOf])]
theorem index10_miss {b : UInt8} {r : List UInt8} (h : ¬ b = 10) : Lib.index (b :: r) [10] = if Lib.index r [10] == -1 then -1 else Lib.index r [10] + 1 := by
  conv => lhs; unfold Lib.index
  rw [if_neg (by simpa [List.isPrefixOf] using fun e => h e.symm)]
theorem replaceK_gP (pad : List UInt8) : ∀ (L : List UInt8) (k : Nat), L.count 10 ≤ k → Lib.replaceK [10] (10 :: pad) k L = gP pad L
  | [], 0, _ => rfl
  | [], k + 1, _ => by
    unfold Lib.replaceK
    rw [if_pos (by decide)]
    rfl
  | b :: r, 0, h => by
    have hb : ¬ b = 10 := by rintro rfl; simp at h
    have hr : r.count 10 ≤ 0 := by rw [List.count_cons_of_ne (by simpa using hb)] at h; exact h
    have := replaceK_gP pad r 0 hr
    rw [gP_cons hb, ← this]
    rfl
  | b :: r, k + 1, h => by
    by_cases hb : b = 10
    · subst hb
      have hr : r.count 10 ≤ k := by rw [List.count_cons_self] at h; omega
      rw [Lib.replaceK_hit [10] (10 :: pad) k (10 :: r) 0 (index10_hit r), gP_line, ← replaceK_gP pad r k hr]
      simp
    · have hr : r.count 10 ≤ k + 1 := by rw [List.count_cons_of_ne (by simpa using hb)] at h; exact h
      have ih := replaceK_gP pad r (k + 1) hr
      rw [gP_cons hb, ← ih]
      have hx := index10_miss (r := r) hb
      by_cases hm : Lib.index r [10] = -1
      · rw [hm] at hx
        unfold Lib.replaceK
        rw [hx, hm]
        rfl
      · have hg := Lib.index_ge r [10]
        obtain ⟨i, hi⟩ : ∃ i : Nat, Lib.index r [10] = i := ⟨(Lib.index r [10]).toNat, by omega⟩
        rw [hi, if_neg (by simp)] at hx
        rw [Lib.replaceK_hit [10] (10 :: pad) k (b :: r) (i + 1) hx, Lib.replaceK_hit [10] (10 :: pad) k r i hi]
        simp
theorem replace_gP {pad L : List UInt8} (hp : pad ≠ []) : Lib.replaceAll L [10] (10 :: pad) = gP pad L := by
  unfold Lib.replaceAll Lib.replace
  rw [if_neg (by simpa using fun e => hp e)]
  unfold Lib.replaceNum
  rw [if_pos (.inl (by decide)), Lib.count_one]
  exact replaceK_gP pad L _ (Nat.le_refl _)
theorem gP_len (pad : List UInt8) : ∀ (L : List UInt8), L.length ≤ (gP pad L).length
  | [] => Nat.le_refl _
  | b :: r => by
    have ih := gP_len pad r
    by_cases hb : b = 10
    · rw [hb, gP_line]; simp; omega
    · rw [gP_cons hb]; simp; omega
theorem u64_mod (n : Int) (m : Nat) (hm : 0 < m) (hm2 : m ≤ 4294967296) : ∃ N : Nat, N < m ∧ wrap64 ((IntKind.u64.wrap n).tmod m) = N := by
  rw [IntKind.wrap_u64]
  have h0 : 0 ≤ n % 18446744073709551616 := Int.emod_nonneg _ (by decide)
  rw [Int.tmod_eq_emod_of_nonneg h0]
  have h1 := Int.emod_nonneg (n % 18446744073709551616) (show (m : Int) ≠ 0 by omega)
  have h2 := Int.emod_lt_of_pos (n % 18446744073709551616) (show (0 : Int) < m by omega)
  refine ⟨(n % 18446744073709551616 % m).toNat, by omega, ?_⟩
  unfold wrap64
  omega
theorem replaceAll_is {pad new s : ByteArray} {mx : Int} {W : World} (hp : 1 ≤ pad.size) (hp2 : pad.size ≤ 4) (hn : new.data.toList = 10 :: pad.data.toList) (hs : s.size ≤ 4294967280) (hm : W.cell? ⟨1, 0, none⟩ = some (.int .i64 mx)) :
    Calls Tryz.prog 14 #[.string s, .string ⟨#[10]⟩, .string new] W fun e w' => e = .returned (.string ⟨(gP pad.data.toList s.data.toList).toArray⟩) ∧ Below W.heap.size W w' := by
  have hz : new.size = pad.size + 1 := by
    have := congrArg List.length hn
    simp only [Array.length_toList, List.length_cons] at this
    exact this
  have hc := Lib.countB_mul_le ⟨#[10]⟩ (by decide) s.size s (Nat.le_refl _)
  have hc1 : Lib.countB s ⟨#[10]⟩ ≤ s.size := by
    rw [show (⟨#[10]⟩ : ByteArray).size = 1 from rfl, Nat.mul_one] at hc
    exact hc
  have hc2 : Lib.countB s ⟨#[10]⟩ * new.size ≤ s.size * 5 := Nat.mul_le_mul hc1 (by omega)
  refine (Tryz.strings_ReplaceAll s ⟨#[10]⟩ new mx W (by omega) hm (by decide) (by omega)).mono fun e w' h => ⟨?_, h.2⟩
  rw [h.1, hn, replace_gP]
  intro c
  have : pad.data.toList.length = 0 := by rw [c]; rfl
  rw [Array.length_toList] at this
  have h3 : pad.data.size = pad.size := rfl
  omega
theorem gP_le (pad : List UInt8) : ∀ (L : List UInt8), (gP pad L).length ≤ L.length * (pad.length + 1)
  | [] => Nat.zero_le _
  | b :: r => by
    have ih := gP_le pad r
    have e : gP pad (b :: r) = (if b = 10 then 10 :: pad else [b]) ++ gP pad r := rfl
    rw [e, List.length_append, List.length_cons, Nat.succ_mul]
    split
    · simp only [List.length_cons]; omega
    · simp only [List.length_cons, List.length_nil]; omega
theorem printB_last (r : MR) : ∃ L, printB r = L ++ [10] := by
  refine ⟨lineB [wTxns, decB r.1] ++ (lineB [wUnique, eiB r.2.1 wYes wNo] ++ (r.2.2.1.flatMap (fun a => lineB (aParts a)) ++ (lineB [wLevel, nameN r.2.2.2.1] ++ Lib.join ((ansParts r.2.2.2.2.1 r.2.2.2.2.2).map (·.data.toList)) [32]))), ?_⟩
  simp only [List.append_assoc]
  rfl
theorem printB_len {r : MR} (h : RngR r) : (printB r).length ≤ 4016000000 := by
  obtain ⟨h1, h2, h3, h4, h5⟩ := h
  have t1 := two_len (a := wTxns) (b := decB r.1) (by decide) (by have := decB_size h1; omega)
  have t2 := two_len (a := wUnique) (b := eiB r.2.1 wYes wNo) (by decide) (by have := eiB_size r.2.1 (y := wYes) (n := wNo) (by decide) (by decide); omega)
  have t3 := lines_len h3 h2 r.2.2.1.length
  rw [List.take_of_length_le (Nat.le_refl _)] at t3
  have t4 := two_len (a := wLevel) (b := nameN r.2.2.2.1) (by decide) (by have := nameN_size r.2.2.2.1; omega)
  have t5 := ansLine_len (x := r.2.2.2.2.1) h4 h5
  unfold printB
  simp only [List.length_append]
  omega
theorem trim_last (L : Bs) : Lib.trimSuffix (L ++ [10]) [10] = L := by
  unfold Lib.trimSuffix Lib.hasSuffix
  rw [if_pos (by simp)]
  simp
def padL : List ByteArray := [⟨#[10]⟩, ⟨#[32, 10, 10]⟩, ⟨#[32, 32]⟩]
theorem pad_ok {N : Nat} (h : N < 3) : ∃ p, padL.getD N default = p ∧ 1 ≤ p.size ∧ p.size ≤ 4 ∧ ∀ b ∈ p.data.toList, b = 32 ∨ b = 10 := by
  rcases (by omega : N = 0 ∨ N = 1 ∨ N = 2) with rfl | rfl | rfl
  · exact ⟨_, rfl, by decide, by decide, by decide⟩
  · exact ⟨_, rfl, by decide, by decide, by decide⟩
  · exact ⟨_, rfl, by decide, by decide, by decide⟩
theorem gP_size {pad s : ByteArray} (hp : pad.size ≤ 4) (hs : s.size ≤ 4294967280) : (⟨(gP pad.data.toList s.data.toList).toArray⟩ : ByteArray).size ≤ 21474836400 := by
  have h := gP_le pad.data.toList s.data.toList
  have e1 : s.data.toList.length = s.size := by rw [Array.length_toList]; rfl
  have e2 : pad.data.toList.length = pad.size := by rw [Array.length_toList]; rfl
  have e3 : (⟨(gP pad.data.toList s.data.toList).toArray⟩ : ByteArray).size = (gP pad.data.toList s.data.toList).length := by
    show (gP pad.data.toList s.data.toList).toArray.size = _
    simp
  rw [e1, e2] at h
  rw [e3]
  have h2 : s.size * (pad.size + 1) ≤ 4294967280 * 5 := Nat.mul_le_mul hs (by omega)
  omega
theorem gP_more (pad s : ByteArray) : s.size ≤ (⟨(gP pad.data.toList s.data.toList).toArray⟩ : ByteArray).size := by
  have h := gP_len pad.data.toList s.data.toList
  have e1 : s.data.toList.length = s.size := by rw [Array.length_toList]; rfl
  have e3 : (⟨(gP pad.data.toList s.data.toList).toArray⟩ : ByteArray).size = (gP pad.data.toList s.data.toList).length := by
    show (gP pad.data.toList s.data.toList).toArray.size = _
    simp
  omega
set_option maxHeartbeats 8000000 in
set_option maxRecDepth 100000 in
theorem lines_walk (r : MR) (v : Value) (k : Int) (w : World) (mx : Int) (te : TypeId) (pe : Value) (hv : w.cell? ⟨6, 0, none⟩ = some (.iface te pe)) (hN : NamesAt w) (ht : Lib.TabIs Tryz.prog w "internal/strconv.uint64pow10" .u64 Lib.pow10Tab) (hmx : w.cell? ⟨1, 0, none⟩ = some (.int .i64 mx)) (h : RepIn w v r) (hi : InR r) (hsm : SmR r) :
    Calls Tryz.prog 6 #[v, .int .i64 k] w fun e w' => e = .returned (.bool true) ∧ Below w.heap.size w w' := by
  obtain ⟨t, u, al, e, x, os⟩ := r
  obtain ⟨av, ov, rfl, ha, ho⟩ := h
  obtain ⟨aa, ac, rfl, _, _⟩ := id (Tx.RowsIn.cells ha (by omega))
  obtain ⟨oa, oc, rfl, _, _⟩ := id ho.cells
  simp only [encR]
  obtain ⟨s, n, hcase, P11, P12⟩ := print_both t u aa al ac e x oa os oc w ha ho hi hsm ht hN
  have hlt := World.block_lt_of_cell? _ _ hv
  have hlm := World.block_lt_of_cell? _ _ hmx
  have HP7 : Hid (∀ s2 V, Below w.heap.size w V → Calls Tryz.prog 7 #[.string s2] V fun e w' => ParseR V (parseQ s2) e w' ∧ Below V.heap.size V w') := fun s2 V hb => parse_is s2 V te pe ((hb.cell (p := ⟨6, 0, none⟩) hlt).trans hv) (hN.later hb)
  have HRI : Hid (∀ V, Below w.heap.size w V → RepIn V (.agg #[.int .i64 t, .bool u, .slice aa al.length ac, .int .i64 e, .int .i64 x, .slice oa os.length oc]) (t, u, al, e, x, os)) := fun V hb => ⟨_, _, rfl, ansIn_later ha hb, IntsIn.laterB ho hb⟩
  have hn01 : n = 0 ∨ n = 1 := by rcases hcase with ⟨_, h1, _⟩ | ⟨_, h1, _⟩ <;> omega
  have hsz0 : s.size ≤ 4294967280 := by
    rcases hcase with ⟨_, _, h2⟩ | ⟨hc, _, h2⟩
    · subst h2; decide
    · have h3 := printB_len (rng_of hc hi)
      rw [← h2, Array.length_toList] at h3
      exact Nat.le_trans h3 (by decide)
  obtain ⟨N, hN3, hk⟩ := u64_mod k 3 (by omega) (by omega)
  obtain ⟨pad, hpad, p1, p2, p3⟩ := pad_ok hN3
  have HRA : Hid (∀ V, Below w.heap.size w V → Calls Tryz.prog 14 #[.string s, .string ⟨#[10]⟩, .string (⟨#[10]⟩ ++ pad)] V fun e w' => e = .returned (.string ⟨(gP pad.data.toList s.data.toList).toArray⟩) ∧ Below V.heap.size V w') :=
    fun V hb => replaceAll_is (mx := mx) p1 p2 (by rw [ByteArray.data_append, Array.toList_append]; rfl) hsz0 ((hb.cell (p := ⟨1, 0, none⟩) hlm).trans hmx)
  have hG1 := gP_size (pad := pad) (s := s) p2 hsz0
  have hG2 := gP_more pad s
  have hTD : Hid ((pad ++ (⟨(gP pad.data.toList s.data.toList).toArray⟩ : ByteArray)).data.toList = pad.data.toList ++ gP pad.data.toList s.data.toList) := by show _ = _; rw [ByteArray.data_append, Array.toList_append]
  obtain ⟨G, hG⟩ : ∃ G : ByteArray, (⟨(gP pad.data.toList s.data.toList).toArray⟩ : ByteArray) = G := ⟨_, rfl⟩
  rw [hG] at HRA hG1 hG2 hTD
  have HPP : Hid (n = 0 → (pad ++ G).size ≤ 20000 → parseQ (pad ++ G) = .ok (t, u, al, e, x, os)) := fun hn hs => by
    rcases hcase with ⟨_, h1, _⟩ | ⟨hc, _, h2⟩
    · omega
    · have h3 : (pad ++ G).size = pad.size + G.size := ByteArray.size_append
      exact parse_pad hc (rng_of hc hi) h2 (by omega) p3 hTD.out hs
  obtain ⟨x3, hx3⟩ : ∃ x3 : ByteArray, (⟨(Lib.trimSuffix s.data.toList [10]).toArray⟩ : ByteArray) = x3 := ⟨_, rfl⟩
  have TS : Hid (∀ V, Calls Tryz.prog 15 #[.string s, .string ⟨#[10]⟩] V fun e w' => e = .returned (.string x3) ∧ w' = V) := fun V => by
    rw [← hx3]
    exact Tryz.strings_TrimSuffix s ⟨#[10]⟩ V (by omega)
  have HPT : Hid (n = 0 → s.size ≤ 20000 → parseQ x3 = .ok (t, u, al, e, x, os)) := fun hn hs => by
    rcases hcase with ⟨_, h1, _⟩ | ⟨hc, _, h2⟩
    · omega
    · obtain ⟨L, hL⟩ := printB_last (t, u, al, e, x, os)
      rw [hL] at h2
      rw [h2, trim_last] at hx3
      have e1 : x3.data.toList = L := by rw [← hx3]
      refine parse_trim hc (rng_of hc hi) (by rw [e1, hL]) ?_
      have e2 := congrArg List.length h2
      have e3 := congrArg List.length e1
      simp only [Array.length_toList, List.length_append] at e2 e3
      have e4 : s.data.size = s.size := rfl
      have e5 : x3.data.size = x3.size := rfl
      omega
  have BX := box_new w #[.int .i64 t, .bool u, .slice aa al.length ac, .int .i64 e, .int .i64 x, .slice oa os.length oc] 25
  have A1 := hid (below_box w (.cells #[.int .i64 t, .bool u, .slice aa al.length ac, .int .i64 e, .int .i64 x, .slice oa os.length oc] 25))
  obtain ⟨W, hW⟩ : ∃ W, w.alloc (.cells #[.int .i64 t, .bool u, .slice aa al.length ac, .int .i64 e, .int .i64 x, .slice oa os.length oc] 25) = W := ⟨_, rfl⟩
  obtain ⟨o, hoo⟩ : ∃ o, w.heap.size = o := ⟨_, rfl⟩
  have BW1 : Hid (Below w.heap.size w W) := by rw [← hW]; exact A1.out
  rw [hW, hoo] at BX
  have HBX := hid BX
  obtain ⟨c0, c1, c2, c3, c4, c5⟩ := BX.cells
  have HPAD := hid hpad
  have HN3 := hid hN3
  clear BX A1 ha ho hi hsm hv hN ht hlt hlm hmx hcase hG hx3 hTD hpad p3 hsz0
  have HK := hid hk
  clear hk
  go_enter Tryz.func6, Tryz.ntmps6
  go_wp2_with fail
  go_at_call 11
  refine (P11.out _ BW1.out).mono ?_
  rintro en w1 ⟨rfl, b1⟩
  have B1 : Hid (Below w.heap.size w w1) := BW1.out.trans (b1.mono BW1.out.size)
  have HB1 := hid (HBX.out.later b1)
  obtain ⟨d0, d1, d2, d3, d4, d5⟩ := HB1.out.cells
  clear b1 hW hoo P11 c0 c1 c2 c3 c4 c5 HBX
  go_wp2_with fail
  go_at_call 12
  refine (P12.out _ B1.out).mono ?_
  rintro en w2 ⟨rfl, b2⟩
  have B2 : Hid (Below w.heap.size w w2) := B1.out.trans (b2.mono B1.out.size)
  have HB2 := hid (HB1.out.later b2)
  clear b2 P12 d0 d1 d2 d3 d4 d5 HB1
  have hNi : (N : Int) < 3 := by omega
  have hN0 : (0 : Int) ≤ N := by omega
  have hz1 : (⟨#[10]⟩ : ByteArray).size + pad.size ≤ 9223372036854775807 := by have : (⟨#[10]⟩ : ByteArray).size = 1 := rfl; omega
  have hcp : (w2.alloc (.cells #[.string ⟨#[10]⟩, .string ⟨#[32, 10, 10]⟩, .string ⟨#[32, 32]⟩] 9)).cell? ⟨w2.heap.size, N, none⟩ = some (.string pad) := by
    have := (words_is w2 padL).cell (k := N) HN3.out
    rw [HPAD.out] at this
    exact this
  obtain ⟨W5, hW5⟩ : ∃ W5, w2.alloc (.cells #[.string ⟨#[10]⟩, .string ⟨#[32, 10, 10]⟩, .string ⟨#[32, 32]⟩] 9) = W5 := ⟨_, rfl⟩
  have B5 : Hid (Below w.heap.size w W5) := by rw [← hW5]; exact B2.out.trans ((below_box w2 _).mono B2.out.size)
  have HB5 : Hid (BoxW W5 o 25 #[.int .i64 t, .bool u, .slice aa al.length ac, .int .i64 e, .int .i64 x, .slice oa os.length oc]) := by rw [← hW5]; exact HB2.out.later (below_box _ _)
  rw [hW5] at hcp
  have hk : wrap64 ((IntKind.u64.wrap k).tmod 3) = (N : Int) := HK.out
  have hcq : W5.cell? ⟨w2.heap.size, (wrap64 ((IntKind.u64.wrap k).tmod 3)).toNat, none⟩ = some (.string pad) := by rw [hk]; exact hcp
  have hki : wrap64 ((IntKind.u64.wrap k).tmod 3) < 3 := by rw [hk]; exact hNi
  have hk0 : (0 : Int) ≤ wrap64 ((IntKind.u64.wrap k).tmod 3) := by rw [hk]; exact hN0
  clear HB2 hcp hNi hN0 hk
  go_wp2_with fail
  go_at_call 14
  clear hcq hki hk0 hW5
  refine (HRA.out _ B5.out).mono ?_
  rintro en w6 ⟨rfl, b6⟩
  have B6 : Hid (Below w.heap.size w w6) := B5.out.trans (b6.mono B5.out.size)
  have HB6 := hid (HB5.out.later b6)
  clear b6 HRA HB5 hz1
  have hz2 : pad.size + G.size ≤ 9223372036854775807 := by omega
  have hse : (pad ++ G).size = pad.size + G.size := ByteArray.size_append
  rcases hn01 with rfl | rfl
  · by_cases hs : (pad ++ G).size ≤ 20000
    · have hsz1 : ¬ (20000 : Int) < (pad.size : Int) + (G.size : Int) := by omega
      have hsz2 : ((pad ++ G).size : Int) ≤ 20000 := by omega
      have hs2 : s.size ≤ 20000 := by omega
      have H7 := hid (fun V hb => HP7.out (pad ++ G) V hb)
      rw [HPP.out rfl hs] at H7
      have H8 := hid (fun V hb => HP7.out x3 V hb)
      rw [HPT.out rfl hs2] at H8
      clear HPP HP7 HPT hs2
      go_wp2_with fail
      go_at_call 7
      refine (H7.out _ B6.out).mono ?_
      rintro en w7 ⟨⟨v, rfl, hv1⟩, b7⟩
      have B7 : Hid (Below w.heap.size w w7) := B6.out.trans (b7.mono B6.out.size)
      have R7 := hid hv1.inAll
      obtain ⟨ba, bc, pa, pc, rfl, -, -⟩ := id hv1
      have HB7 := hid (HB6.out.later b7)
      clear hv1 b7 H7 HB6
      simp only [encR] at R7 ⊢
      obtain ⟨W7, hW7⟩ : ∃ W7, w7.alloc (.cells #[.int .i64 t, .bool u, .slice ba al.length bc, .int .i64 e, .int .i64 x, .slice pa os.length pc] 25) = W7 := ⟨_, rfl⟩
      obtain ⟨o7, ho7⟩ : ∃ o7, w7.heap.size = o7 := ⟨_, rfl⟩
      have HL7 : Hid (BoxW W7 o7 25 #[.int .i64 t, .bool u, .slice ba al.length bc, .int .i64 e, .int .i64 x, .slice pa os.length pc]) := by rw [← hW7, ← ho7]; exact box_new _ _ _
      have HM7 : Hid (BoxW W7 o 25 #[.int .i64 t, .bool u, .slice aa al.length ac, .int .i64 e, .int .i64 x, .slice oa os.length oc]) := by rw [← hW7]; exact HB7.out.later (below_box _ _)
      have C7 : Hid (Below w.heap.size w W7) := by rw [← hW7]; exact B7.out.trans ((below_box w7 _).mono B7.out.size)
      have R7' := hid (R7.out.later (w' := W7) (by rw [← hW7]; exact below_box w7 _))
      clear R7 HB7
      go_wp2_with fail
      go_at_call 15
      clear hW7 ho7
      refine (TS.out W7).mono ?_
      rintro en w8 ⟨rfl, rfl⟩
      clear TS
      go_wp2_with fail
      go_at_call 7
      refine (H8.out _ C7.out).mono ?_
      rintro en w9 ⟨⟨v, rfl, hv2⟩, b9⟩
      have B9 : Hid (Below w.heap.size w w9) := C7.out.trans (b9.mono C7.out.size)
      have R9 := hid hv2.inAll
      obtain ⟨ca, cc, qa, qc, rfl, -, -⟩ := id hv2
      have HL9 := hid (HL7.out.later b9)
      have HM9 := hid (HM7.out.later b9)
      have R7'' := hid (R7'.out.later b9)
      clear hv2 b9 H8 HL7 HM7 R7'
      simp only [encR] at R9 ⊢
      obtain ⟨W9, hW9⟩ : ∃ W9, w9.alloc (.cells #[.int .i64 t, .bool u, .slice ca al.length cc, .int .i64 e, .int .i64 x, .slice qa os.length qc] 25) = W9 := ⟨_, rfl⟩
      obtain ⟨o9, ho9⟩ : ∃ o9, w9.heap.size = o9 := ⟨_, rfl⟩
      have HQ9 : Hid (BoxW W9 o9 25 #[.int .i64 t, .bool u, .slice ca al.length cc, .int .i64 e, .int .i64 x, .slice qa os.length qc]) := by rw [← hW9, ← ho9]; exact box_new _ _ _
      have HL9' : Hid (BoxW W9 o7 25 #[.int .i64 t, .bool u, .slice ba al.length bc, .int .i64 e, .int .i64 x, .slice pa os.length pc]) := by rw [← hW9]; exact HL9.out.later (below_box _ _)
      have HM9' : Hid (BoxW W9 o 25 #[.int .i64 t, .bool u, .slice aa al.length ac, .int .i64 e, .int .i64 x, .slice oa os.length oc]) := by rw [← hW9]; exact HM9.out.later (below_box _ _)
      have C9 : Hid (Below w.heap.size w W9) := by rw [← hW9]; exact B9.out.trans ((below_box w9 _).mono B9.out.size)
      have R7c := hid (R7''.out.later (w' := W9) (by rw [← hW9]; exact below_box w9 _))
      have R9c := hid (R9.out.later (w' := W9) (by rw [← hW9]; exact below_box w9 _))
      obtain ⟨k0, k1, k2, k3, k4, k5⟩ := HL9'.out.cells
      obtain ⟨m0, m1, m2, m3, m4, m5⟩ := HM9'.out.cells
      clear R7'' R9 HL9 HM9
      go_wp2_with fail
      go_at_call 10
      clear hW9 ho9
      refine (sameRep_is _ _ _ W9 (HRI.out W9 C9.out) R7c.out).mono ?_
      rintro en w10 ⟨rfl, b10⟩
      have B10 : Hid (Below w.heap.size w w10) := C9.out.trans (b10.mono C9.out.size)
      have R10 := hid (R9c.out.later b10)
      clear k0 k1 k2 k3 k4 k5 m0 m1 m2 m3 m4 m5
      obtain ⟨k0, k1, k2, k3, k4, k5⟩ := (HQ9.out.later b10).cells
      obtain ⟨m0, m1, m2, m3, m4, m5⟩ := (HM9'.out.later b10).cells
      clear b10 R7c R9c HQ9 HL9' HM9'
      go_wp2_with fail
      go_at_call 10
      refine (sameRep_is _ _ _ w10 (HRI.out w10 B10.out) R10.out).mono ?_
      rintro en w11 ⟨rfl, b11⟩
      have B11 : Hid (Below w.heap.size w w11) := B10.out.trans (b11.mono B10.out.size)
      clear b11
      go_wp2_with fail
      go_ret
      exact ⟨rfl, B11.out⟩
    · have hsz1 : (20000 : Int) < (pad.size : Int) + (G.size : Int) := by omega
      have hsz2 : ¬ ((pad ++ G).size : Int) ≤ 20000 := by omega
      go_wp2_with fail
      go_ret
      exact ⟨rfl, B6.out⟩
  · go_wp2_with fail
    go_ret
    exact ⟨rfl, B6.out⟩
end Go.Proofs.YtkpomcimaofkkaaGreatDoor.Rp
namespace Go.Proofs.YtkpomcimaofkkaaGreatDoor.Rp
set_option linter.unusedVariables false
set_option linter.unusedSimpArgs false
open Go.RowKit Go.ChangeShapes Go.WideShapes

theorem Tryz.cells4r : Tryz.prog.cellsOf 4 = 1 := by kernel_rfl
theorem Tryz.cells3r : Tryz.prog.cellsOf 3 = 1 := by kernel_rfl
theorem Tryz.cells9r : Tryz.prog.cellsOf 9 = 1 := by kernel_rfl
theorem Tryz.cellsIr : Tryz.prog.cellsOf 23 = 1 := by kernel_rfl
theorem Tryz.cellsWr : Tryz.prog.cellsOf 66 = 1 := by kernel_rfl
theorem Tryz.cellsAr : Tryz.prog.cellsOf 22 = 1 := by kernel_rfl
theorem Tryz.cellsOW : Tryz.prog.cellsOf 108 = 8 := by kernel_rfl
theorem Tryz.cellsOA : Tryz.prog.cellsOf 68 = 9 := by kernel_rfl
theorem Tryz.cellsOR : Tryz.prog.cellsOf 25 = 6 := by kernel_rfl
theorem Tryz.bytes3r : Tryz.prog.bytesOf 3 = 8 := by kernel_rfl
theorem Tryz.bytesOW : Tryz.prog.bytesOf 108 = 64 := by kernel_rfl
theorem Tryz.bytesOA : Tryz.prog.bytesOf 68 = 96 := by kernel_rfl

section
variable {H : Type} {enc : TypeId × Value → H} {P : Program} {w : World} {base : Nat} {spare : Nat → Bool} {held : Bool}

theorem weightsAll_mem {e : TypeId} {n : Nat} {d : DataW H} : ∀ {ds : List (DataW H)}, d ∈ ds → n ∈ d.weights P e → n ∈ DataW.weightsAll P e ds
  | [], hd, _ => by simp at hd
  | x :: ds, hd, hn => by
    simp only [DataW.weightsAll, List.mem_append]
    rcases List.mem_cons.1 hd with rfl | hd
    · exact Or.inl hn
    · exact Or.inr (weightsAll_mem hd hn)

/-- A slice of elements of k cells, each of which can be read. -/
theorem rows_of_trod {α : Type} [Inhabited α] {t e : TypeId} {k bytes fuel : Nat} {R : List Value → α → Prop} {cs : List Value} {x : DataW H × List MemPlace}
    (ht : P.underlying t = some (.slice e)) (hk : P.cellsOf e = k) (hk0 : 0 < k) (hby : P.bytesOf e = bytes)
    (h : DataW.trod enc P w base spare held fuel t cs = some x) (hw : ∀ n ∈ x.1.weights P t, n ≤ reachBytes)
    (he : ∀ (n : Nat) (cs' : List Value) (y : DataW H × List MemPlace), cs'.length = k → DataW.trod enc P w base spare held n e cs' = some y → (∀ n ∈ y.1.weights P e, n ≤ reachBytes) → ∃ a : α, R cs' a) :
    ∃ v l, cs = [v] ∧ RowsIn k bytes R All w v l := by
  rcases Deep.open_slice ht h with ⟨rfl, rfl⟩ | ⟨a, len, cap, m, n, D, Pl, rfl, hb, hl, hm, hmm, rfl, hx⟩
  · exact ⟨_, [], rfl, none, 0, rfl, ⟨by simp, Nat.le_refl _⟩, fun h => by simp at h⟩
  · have hlm : len ≤ m := by rw [hmm]; split <;> omega
    rw [hk] at hx
    have key : ∀ i, i < len → ∃ q : α × List Value, q.2.length = k ∧ R q.2 q.1 ∧ ∀ j, j < k → w.cell? (a.add (i * k + j)) = q.2[j]? := fun i hi => by
      obtain ⟨cs', h1, h2⟩ := hx i (by omega)
      obtain ⟨_, hlen, hc⟩ := World.cells?_some h1
      obtain ⟨y, hy⟩ := he n cs' _ hlen h2 (fun q hq => hw q (by
        simp only [DataW.weights, ht, List.mem_cons, List.mem_append]
        exact Or.inr (Or.inl (weightsAll_mem (d := D i) (by simp; exact ⟨i, hi, rfl⟩) hq))))
      exact ⟨(y, cs'), hlen, hy, fun j hj => by rw [← Deep.add_add]; exact hc j hj⟩
    obtain ⟨f, hf⟩ := Deep.choose_lt (α := α × List Value) key
    refine ⟨_, (List.range len).map (fun i => (f i).1), rfl, some a, cap, by simp, ⟨?_, by simpa using hl⟩, fun h0 => ?_⟩
    · have := hw ((len + (m - len)) * P.bytesOf e) (by simp [DataW.weights, ht])
      rw [hby] at this
      simp only [List.length_map, List.length_range]
      have h2 : len * bytes ≤ (len + (m - len)) * bytes := Nat.mul_le_mul_right _ (by omega)
      have h3 : reachBytes ≤ 140737488355328 := by decide
      omega
    · simp only [List.length_map, List.length_range] at h0
      obtain ⟨b, off, spot⟩ := a
      have hspot : spot = none := by
        obtain ⟨h1, _, h3⟩ := hf 0 h0
        have := h3 0 hk0
        rw [List.getElem?_eq_getElem (by omega)] at this
        simpa [Addr.add] using World.cell?_spot this
      subst hspot
      refine ⟨b, off, rfl, trivial, fun j hj => ?_⟩
      simp only [List.length_map, List.length_range] at hj
      obtain ⟨h1, h2, h3⟩ := hf j hj
      refine ⟨(f j).2, h1, ?_, fun i u hi => ?_⟩
      · simpa [List.getD, hj] using h2
      · have hik : i < k := by rw [← h1]; exact (List.getElem?_eq_some_iff.1 hi).1
        have := h3 i hik
        rw [Addr.add_lit, hi] at this
        simpa [Nat.add_assoc] using this
end

/-- What holds of each row's element holds of each element. -/
theorem rows_all {α : Type} [Inhabited α] {k bytes : Nat} {R : List Value → α → Prop} {C : α → Prop} {S : Nat → Prop} {w : World} {v : Value} {l : List α} (h : RowsIn k bytes (fun cs a => R cs a ∧ C a) S w v l) : RowsIn k bytes R S w v l ∧ ∀ a ∈ l, C a := by
  obtain ⟨ao, c, hv, hl, hc⟩ := h
  refine ⟨⟨ao, c, hv, hl, fun h0 => ?_⟩, fun a ha => ?_⟩
  · obtain ⟨b, off, e1, e2, hj⟩ := hc h0
    refine ⟨b, off, e1, e2, fun j hlt => ?_⟩
    obtain ⟨cs, q1, q2, q3⟩ := hj j hlt
    exact ⟨cs, q1, q2.1, q3⟩
  · obtain ⟨j, hj, e⟩ := List.mem_iff_getElem.1 ha
    obtain ⟨b, off, _, _, hcc⟩ := hc (by omega)
    obtain ⟨cs, _, q2, _⟩ := hcc j hj
    have : l.getD j default = a := by simp [List.getD, List.getElem?_eq_getElem hj, e]
    rw [this] at q2
    exact q2.2


theorem wf_range {n : Int} (h : (Lit.int .i64 n).wf = true) : i64R n := by
  simp only [Lit.wf, Bool.and_eq_true, decide_eq_true_eq] at h
  exact h
theorem str_short {H : Type} {P : Program} {t : TypeId} {s : ByteArray} {d : DataW H} (ht : P.underlying t = some .string) (g : d = .lit (.string s.data.toList)) (hw : ∀ n ∈ d.weights P t, n ≤ reachBytes) : s.size ≤ 140737488355328 := by
  have := hw s.data.toList.length (by rw [g]; simp [DataW.weights, ht])
  rw [Array.length_toList] at this
  have h3 : reachBytes ≤ 140737488355328 := by decide
  exact Nat.le_trans this h3
section
variable {H : Type} {enc : TypeId × Value → H} {w : World} {base : Nat} {spare : Nat → Bool} {held : Bool}

/-- A list of ints. -/
theorem ints_of_trod {fuel : Nat} {cs : List Value} {x : DataW H × List MemPlace} (h : DataW.trod enc Tryz.prog w base spare held fuel 23 cs = some x) (hw : ∀ n ∈ x.1.weights Tryz.prog 23, n ≤ reachBytes) :
    ∃ v l, cs = [v] ∧ IntsIn All w v l ∧ ∀ a ∈ l, i64R a := by
  obtain ⟨v, l, hv, hr⟩ := rows_of_trod (R := fun cs (a : Int) => cs = [.int .i64 a] ∧ i64R a) (k := 1) (bytes := 8) Tryz.underlying23 Tryz.cells3r (by omega) Tryz.bytes3r h hw (fun n cs' y hlen hy _ => by
    obtain ⟨z, hz, _, hz2⟩ := DataW.trod_int Tryz.underlying3 hy
    exact ⟨z, hz, wf_range hz2⟩)
  obtain ⟨⟨ao, c, hvv, hl, hc⟩, hall⟩ := rows_all hr
  refine ⟨v, l, hv, ⟨ao, c, hvv, hl, fun h0 => ?_⟩, hall⟩
  obtain ⟨b, off, ha, _, hj⟩ := hc h0
  refine ⟨b, off, ha, trivial, fun j hlt => ?_⟩
  obtain ⟨cs', _, hcs, hcc⟩ := hj j hlt
  have := hcc 0 (.int .i64 (l.getD j default)) (by rw [hcs]; rfl)
  simpa using this

set_option maxRecDepth 10000 in
/-- A dependency's eight cells. -/
theorem why_of_trod (n : Nat) (cs : List Value) (y : DataW H × List MemPlace) (hlen : cs.length = 8) (h : DataW.trod enc Tryz.prog w base spare held n 108 cs = some y) (hw : ∀ n ∈ y.1.weights Tryz.prog 108, n ≤ reachBytes) :
    ∃ a : MW, cs = encW a ∧ InW a ∧ SmW a := by
  obtain ⟨xs, m, rfl, rfl, _, hxl, hf⟩ := DataW.trod_struct Tryz.underlying108 h
  match cs, hlen with
  | [c0, c1, c2, c3, c4, c5, c6, c7], _ =>
    match xs, hxl with
    | [x0, x1, x2, x3, x4, x5, x6, x7], _ =>
      have f0 := hf 0 _ rfl
      have f1 := hf 1 _ rfl
      have f2 := hf 2 _ rfl
      have f3 := hf 3 _ rfl
      have f4 := hf 4 _ rfl
      have f5 := hf 5 _ rfl
      have f6 := hf 6 _ rfl
      have f7 := hf 7 _ rfl
      simp [Tryz.cells3r, Tryz.cells4r, Tryz.cells9r] at f0 f1 f2 f3 f4 f5 f6 f7
      obtain ⟨k0, e0, _, w0⟩ := DataW.trod_int Tryz.underlying3 f0
      obtain ⟨k1, e1, _, w1⟩ := DataW.trod_int Tryz.underlying3 f1
      obtain ⟨k2, e2, _⟩ := DataW.trod_int Tryz.underlying3 f2
      obtain ⟨k3, e3, g3, _⟩ := DataW.trod_string Tryz.underlying9 f3
      obtain ⟨k4, e4, _, w4⟩ := DataW.trod_int Tryz.underlying3 f4
      obtain ⟨k5, e5, _, w5⟩ := DataW.trod_int Tryz.underlying3 f5
      obtain ⟨k6, e6, _⟩ := DataW.trod_bool Tryz.underlying4 f6
      obtain ⟨k7, e7, _⟩ := DataW.trod_bool Tryz.underlying4 f7
      have hk3 : k3.size ≤ 140737488355328 := str_short (P := Tryz.prog) Tryz.underlying9 (congrArg Prod.fst g3) (fun n hn => hw n (by
        simp only [DataW.weights, Tryz.underlying108]
        exact DataW.weights_mem_each (j := 3) rfl rfl n hn))
      simp at e0 e1 e2 e3 e4 e5 e6 e7
      subst e0 e1 e2 e3 e4 e5 e6 e7
      exact ⟨⟨k0, k1, k2, k3, k4, k5, k6, k7⟩, rfl, ⟨wf_range w0, wf_range w1, wf_range w4, wf_range w5⟩, hk3⟩

/-- Dependencies. -/
theorem whys_of_trod {fuel : Nat} {cs : List Value} {x : DataW H × List MemPlace} (h : DataW.trod enc Tryz.prog w base spare held fuel 66 cs = some x) (hw : ∀ n ∈ x.1.weights Tryz.prog 66, n ≤ reachBytes) :
    ∃ v l, cs = [v] ∧ WhysIn w v l ∧ ∀ a ∈ l, InW a ∧ SmW a := by
  obtain ⟨v, l, hv, hr⟩ := rows_of_trod (R := fun cs (a : MW) => cs = encW a ∧ (InW a ∧ SmW a)) (k := 8) (bytes := 64) Tryz.underlying66 Tryz.cellsOW (by omega) Tryz.bytesOW h hw why_of_trod
  obtain ⟨h1, hall⟩ := rows_all hr
  exact ⟨v, l, hv, h1, hall⟩

set_option maxRecDepth 10000 in
/-- An anomaly's nine cells. -/
theorem an_of_trod (n : Nat) (cs : List Value) (y : DataW H × List MemPlace) (hlen : cs.length = 9) (h : DataW.trod enc Tryz.prog w base spare held n 68 cs = some y) (hw : ∀ n ∈ y.1.weights Tryz.prog 68, n ≤ reachBytes) :
    ∃ a : MA, AnRow w cs a ∧ (InA a ∧ SmA a) := by
  obtain ⟨xs, m, rfl, rfl, _, hxl, hf⟩ := DataW.trod_struct Tryz.underlying68 h
  match cs, hlen with
  | [c0, c1, c2, c3, c4, c5, c6, c7, c8], _ =>
    match xs, hxl with
    | [x0, x1, x2, x3, x4, x5, x6, x7, x8], _ =>
      have f0 := hf 0 _ rfl
      have f1 := hf 1 _ rfl
      have f2 := hf 2 _ rfl
      have f3 := hf 3 _ rfl
      have f4 := hf 4 _ rfl
      have f5 := hf 5 _ rfl
      have f6 := hf 6 _ rfl
      have f7 := hf 7 _ rfl
      have f8 := hf 8 _ rfl
      simp [Tryz.cells3r, Tryz.cells4r, Tryz.cells9r, Tryz.cellsWr] at f0 f1 f2 f3 f4 f5 f6 f7 f8
      obtain ⟨k0, e0, _⟩ := DataW.trod_int Tryz.underlying3 f0
      obtain ⟨k1, e1, _, w1⟩ := DataW.trod_int Tryz.underlying3 f1
      obtain ⟨k2, e2, _, w2⟩ := DataW.trod_int Tryz.underlying3 f2
      obtain ⟨k3, e3, _, w3⟩ := DataW.trod_int Tryz.underlying3 f3
      obtain ⟨k4, e4, g4, _⟩ := DataW.trod_string Tryz.underlying9 f4
      obtain ⟨k5, e5, _, w5⟩ := DataW.trod_int Tryz.underlying3 f5
      obtain ⟨v6, k6, e6, l6, i6⟩ := whys_of_trod f6 (fun n hn => hw n (by
        simp only [DataW.weights, Tryz.underlying68]
        exact DataW.weights_mem_each (j := 6) rfl rfl n hn))
      obtain ⟨k7, e7, _⟩ := DataW.trod_bool Tryz.underlying4 f7
      obtain ⟨k8, e8, _⟩ := DataW.trod_int Tryz.underlying3 f8
      have hk4 : k4.size ≤ 140737488355328 := str_short (P := Tryz.prog) Tryz.underlying9 (congrArg Prod.fst g4) (fun n hn => hw n (by
        simp only [DataW.weights, Tryz.underlying68]
        exact DataW.weights_mem_each (j := 4) rfl rfl n hn))
      simp at e0 e1 e2 e3 e4 e5 e6 e7 e8
      subst e0 e1 e2 e3 e4 e5 e6 e7 e8
      exact ⟨⟨k0, k1, k2, k3, k4, k5, k6, k7, k8⟩, ⟨c6, rfl, l6⟩, ⟨wf_range w1, wf_range w2, wf_range w3, wf_range w5, fun x hx => (i6 x hx).1⟩, hk4, fun x hx => (i6 x hx).2⟩

/-- Anomalies. -/
theorem ans_of_trod {fuel : Nat} {cs : List Value} {x : DataW H × List MemPlace} (h : DataW.trod enc Tryz.prog w base spare held fuel 22 cs = some x) (hw : ∀ n ∈ x.1.weights Tryz.prog 22, n ≤ reachBytes) :
    ∃ v l, cs = [v] ∧ AnsIn w v l ∧ ∀ a ∈ l, InA a ∧ SmA a := by
  obtain ⟨v, l, hv, hr⟩ := rows_of_trod (R := fun cs (a : MA) => AnRow w cs a ∧ (InA a ∧ SmA a)) (k := 9) (bytes := 96) Tryz.underlying22 Tryz.cellsOA (by omega) Tryz.bytesOA h hw an_of_trod
  obtain ⟨h1, hall⟩ := rows_all hr
  exact ⟨v, l, hv, h1, hall⟩

set_option maxRecDepth 10000 in
/-- A report's six cells. -/
theorem rep_of_trod (n : Nat) (cs : List Value) (y : DataW H × List MemPlace) (hlen : cs.length = 6) (h : DataW.trod enc Tryz.prog w base spare held n 25 cs = some y) (hw : ∀ n ∈ y.1.weights Tryz.prog 25, n ≤ reachBytes) :
    ∃ r : MR, RepIn w (.agg cs.toArray) r ∧ InR r ∧ SmR r := by
  obtain ⟨xs, m, rfl, rfl, _, hxl, hf⟩ := DataW.trod_struct Tryz.underlying25 h
  match cs, hlen with
  | [c0, c1, c2, c3, c4, c5], _ =>
    match xs, hxl with
    | [x0, x1, x2, x3, x4, x5], _ =>
      have f0 := hf 0 _ rfl
      have f1 := hf 1 _ rfl
      have f2 := hf 2 _ rfl
      have f3 := hf 3 _ rfl
      have f4 := hf 4 _ rfl
      have f5 := hf 5 _ rfl
      simp [Tryz.cells3r, Tryz.cells4r, Tryz.cellsIr, Tryz.cellsAr] at f0 f1 f2 f3 f4 f5
      obtain ⟨k0, e0, _, w0⟩ := DataW.trod_int Tryz.underlying3 f0
      obtain ⟨k1, e1, _⟩ := DataW.trod_bool Tryz.underlying4 f1
      obtain ⟨v2, k2, e2, l2, i2⟩ := ans_of_trod f2 (fun n hn => hw n (by
        simp only [DataW.weights, Tryz.underlying25]
        exact DataW.weights_mem_each (j := 2) rfl rfl n hn))
      obtain ⟨k3, e3, _⟩ := DataW.trod_int Tryz.underlying3 f3
      obtain ⟨k4, e4, _⟩ := DataW.trod_int Tryz.underlying3 f4
      obtain ⟨v5, k5, e5, l5, i5⟩ := ints_of_trod f5 (fun n hn => hw n (by
        simp only [DataW.weights, Tryz.underlying25]
        exact DataW.weights_mem_each (j := 5) rfl rfl n hn))
      simp at e0 e1 e2 e3 e4 e5
      subst e0 e1 e2 e3 e4 e5
      exact ⟨⟨k0, k1, k2, k3, k4, k5⟩, ⟨c2, c5, rfl, l2, l5⟩, ⟨wf_range w0, fun a ha => (i2 a ha).1, i5⟩, fun a ha => (i2 a ha).2⟩
end
end Go.Proofs.YtkpomcimaofkkaaGreatDoor.Rp
