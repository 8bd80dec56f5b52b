/-
  slices.EqualFunc of components; the law CompsTells.
-/
import Derived.Test.YtjgmkigfpjmlaaaDoorZP
namespace Go.Proofs.YtjgmkigfpjmlaaaDoor
set_option linter.unusedVariables false
set_option linter.unusedSimpArgs false
open Go.RowKit

theorem part_arg {P : Nat → Prop} {w : World} {v : Value} {l : List Int} (h : Part P w v l) : ∃ a c, v = .slice a l.length c ∧ ArgIn w a l := by
  rcases h with ⟨rfl, rfl⟩ | ⟨g, off, cap, cur, rfl, hP, hh, h1, h2, h3, h4⟩
  · exact ⟨none, 0, rfl, fun j hj => by cases hj⟩
  · exact ⟨_, cap, rfl, fun j hj => ⟨g, off, rfl, (Lib.cell_of_heap hh _).trans (h4 j hj)⟩⟩
set_option maxHeartbeats 8000000 in
set_option maxRecDepth 100000 in
theorem equalF_is (w : World) (H H' : Nat) (v v' : Value) (fs fs' : List (List Nat × Value)) (h : Fnd w H v fs) (h' : Fnd w H' v' fs') (he : fs.map Prod.fst = fs'.map Prod.fst) (hl : fs.length ≤ 300) (hll : ∀ p ∈ fs, p.1.length ≤ 300) :
    Calls Tryd.prog 10 #[v, v', .func (.func 13) #[] #[]] w fun e w' => e = .returned (.bool true) ∧ Below w.heap.size w w' := by
  have hlen : fs.length = fs'.length := by have := congrArg List.length he; simpa using this
  obtain ⟨a, c, rfl, hat⟩ := h.at
  obtain ⟨a', c', rfl, hat'⟩ := h'.at
  have HA := hid hat
  have HA' := hid hat'
  have HF := hid h
  have HF' := hid h'
  have HLL := hid hll
  have HE := hid he
  obtain ⟨N, hN⟩ : ∃ N, fs.length = N := ⟨_, rfl⟩
  have HN := hid hN
  have HN' : Hid (fs'.length = N) := by show fs'.length = N; omega
  rw [← hlen, hN]
  rw [hN] at hl
  have hli : (N : Int) ≤ 300 := by omega
  have hnn : ((N : Int) != (N : Int)) = false := by simp
  clear hat hat' h h' hll he hlen hN
  go_enter Tryd.func10, Tryd.ntmps10
  go_wp2_with fail
  go_loopg [7, 8, 9, 17] N (fun gg _ _ _ i wr => ∃ k : Nat, k ≤ N ∧ N - k ≤ gg ∧ i = .int .i64 k ∧ Aside (Below w.heap.size w wr))
  case atStart => exact ⟨0, Nat.zero_le _, by omega, rfl, Below.refl _ _⟩
  case round =>
    obtain ⟨k, hk, hg, rfl, BX⟩ := hrel
    by_cases hlt : k < N
    · have hlti : (k : Int) < N := by omega
      have hk0 : (0 : Int) ≤ k := by omega
      obtain ⟨g, rfl, _, ck⟩ := HA.out k (by rw [HN.out]; exact hlt)
      obtain ⟨g', rfl, _, ck'⟩ := HA'.out k (by rw [HN'.out]; exact hlt)
      have hm : fs.getD k ([], .slice none 0 0) ∈ fs := by simp [List.getD, show k < fs.length by rw [HN.out]; exact hlt]
      have hm' : fs'.getD k ([], .slice none 0 0) ∈ fs' := by simp [List.getD, show k < fs'.length by rw [HN'.out]; exact hlt]
      have e1 : (fs.getD k ([], .slice none 0 0)).1 = (fs'.getD k ([], .slice none 0 0)).1 := by
        have q : (fs.map Prod.fst).getD k [] = (fs'.map Prod.fst).getD k [] := by rw [HE.out]
        simpa [List.getD, show k < fs.length by rw [HN.out]; exact hlt, show k < fs'.length by rw [HN'.out]; exact hlt] using q
      obtain ⟨ea, ec, ee, ar⟩ := part_arg ((HF.out.later BX.out).2 _ hm)
      obtain ⟨ea', ec', ee', ar'⟩ := part_arg ((HF'.out.later BX.out).2 _ hm')
      rw [← e1] at ee' ar'
      have EQ := hid (equal_same ea ea' ec ec' _ wr ar ar' (by have := HLL.out _ hm; simp only [natI, List.length_map]; unfold maxLen; omega))
      have d1 : wr.cell? ⟨g, k, none⟩ = some (.slice ea (natI (fs.getD k ([], .slice none 0 0)).1).length ec) := by rw [← ee]; exact (BX.out.cell (p := ⟨g, k, none⟩) (World.block_lt_of_cell? _ _ ck)).trans ck
      have d2 : wr.cell? ⟨g', k, none⟩ = some (.slice ea' (natI (fs.getD k ([], .slice none 0 0)).1).length ec') := by rw [← ee']; exact (BX.out.cell (p := ⟨g', k, none⟩) (World.block_lt_of_cell? _ _ ck')).trans ck'
      clear ck ck' ee ee' ar ar' e1 hm hm'
      generalize (natI (fs.getD k ([], .slice none 0 0)).1).length = m at *
      go_wp2_with fail
      go_at_call 13
      refine EQ.out.mono ?_
      rintro e w3 ⟨rfl, q3, rfl⟩
      have B3 : Hid (Below w.heap.size w (wr.drewN q3)) := below_drewN BX.out q3
      clear EQ BX
      go_wp2_with fail
      go_roundg (N - (k + 1))
      · exact ⟨k + 1, by omega, by omega, by go_num, B3.out⟩
      · omega
    · have hlti : ¬ (k : Int) < N := by omega
      go_wp2_with fail
      go_ret
      exact ⟨rfl, BX.out⟩
set_option maxHeartbeats 8000000 in
set_option maxRecDepth 100000 in
theorem tells_walk (n0 : Int) (ao : Option Addr) (cp : Nat) (es : List (Int × Int × Int)) (labels : Int) (w : World) (hz : ArgE w ao es) (hl : es.length ≤ maxLen) (hT : Tab w) :
    Calls Tryd.prog 3 #[.int .i64 n0, .slice ao es.length cp, .int .i64 labels] w fun e w' => e = .returned (.bool true) ∧ Below w.heap.size w w' := by
  obtain ⟨n, hn, hD0⟩ := u64_tmod n0 60 (by decide) (by decide)
  have hD : (IntKind.u64.wrap n0).tmod 60 = (n : Int) := hD0
  clear hD0
  have DR := hid (drawn_P n0 n hn hD ao cp es w hz hl)
  have TB := hid hT
  have hni : (n : Int) < 60 := by omega
  clear hz hT hD
  go_enter Tryd.func3, Tryd.ntmps3
  go_wp2_with (go_at_call 9; refine DR.out.mono ?_; rintro e w1 ⟨⟨b, b2, rfl, h1⟩, bl⟩; have BO := hid h1; have B1 := hid bl; clear h1 bl)
  obtain ⟨r, bk, ck, v, rw', L, hG, hR, -, -, hS⟩ := BO.out
  have G := hid hG
  have R := hid hR
  have T1 := hid (TB.out.later B1.out)
  clear hG hR hS BO DR
  go_at_call 11
  refine (comps_is b n r bk ck L labels w1 G.out T1.out).mono ?_
  rintro e w2 ⟨⟨v2, fs, rfl, f2, c2⟩, b2'⟩
  have F2 := hid f2
  have C2 := hid c2
  have B2 := hid b2'
  obtain ⟨oa, oc, hv2, _⟩ := f2.at
  subst hv2
  clear f2 c2 b2'
  go_wp2_with fail
  go_at_call 12
  refine (rcomps_is b2 n v rw' L labels w2 (R.out.later B2.out) hn).mono ?_
  rintro e w3 ⟨⟨v3, fs3, rfl, f3, c3⟩, b3⟩
  have hlen := C2.out.len
  rw [List.length_map] at hlen
  have EQ := hid (equalF_is w3 _ _ _ _ fs fs3 (F2.out.later b3) f3 (C2.out.uniq c3) (by omega) (fun p hp => by have := hlen.2 p.1 (List.mem_map_of_mem hp); omega))
  have B3 : Hid (Below w.heap.size w w3) := B1.out.trans ((B2.out.trans (b3.mono B2.out.size)).mono B1.out.size)
  obtain ⟨pa, pc, hv3, _⟩ := f3.at
  subst hv3
  clear f3 c3 b3 hlen F2 C2 B2
  go_wp2_with fail
  go_at_call 10
  refine EQ.out.mono ?_
  rintro e w4 ⟨rfl, b4⟩
  have B4 : Hid (Below w.heap.size w w4) := B3.out.trans (b4.mono B3.out.size)
  clear b4 EQ
  go_wp2_with fail
  go_ret
  exact ⟨rfl, B4.out⟩
end Go.Proofs.YtjgmkigfpjmlaaaDoor
