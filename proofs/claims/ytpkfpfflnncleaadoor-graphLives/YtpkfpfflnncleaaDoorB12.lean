/-
  The walk of the law BitsGoes.
-/
import Derived.Test.YtpkfpfflnncleaaDoorB11
namespace Go.Proofs.YtpkfpfflnncleaaDoor
set_option linter.unusedVariables false
set_option linter.unusedSimpArgs false
open Go.RowKit

theorem lst_prefix (f : Nat → Bool) (p q : Nat) (h : p ≤ q) : ∃ r, lst f q = lst f p ++ r := by
  obtain ⟨m, rfl⟩ : ∃ m, q = p + m := ⟨q - p, by omega⟩
  clear h
  induction m with
  | zero => exact ⟨[], by simp⟩
  | succ m ih =>
    obtain ⟨r, hr⟩ := ih
    refine ⟨r ++ [p + m].filter f, ?_⟩
    unfold lst at *
    rw [← Nat.add_assoc, List.range_succ, List.filter_append, hr, List.append_assoc]
theorem lst_one (f : Nat → Bool) (k : Nat) : lst f (k + 1) = if f k then lst f k ++ [k] else lst f k := by
  unfold lst
  rw [List.range_succ, List.filter_append]
  cases h : f k <;> simp [h]
/-- Where a beginning of the list is what lies below p, the next one is what Next tells from p on. -/
theorem goes_step (f : Nat → Bool) (N p j : Nat) (r : Int) (t : Bool) (ht : ∀ i, N ≤ i → f i = false) (hp : p ≤ N) (hj : j < (lst f N).length) (he : lst f p = (lst f N).take j) (hn : NextIs f p r t) :
    t = true ∧ r = ((lst f N).getD j 0 : Nat) ∧ (lst f N).getD j 0 + 1 ≤ N ∧ lst f ((lst f N).getD j 0 + 1) = (lst f N).take (j + 1) := by
  have hlen : (lst f p).length = j := by rw [he, List.length_take]; omega
  rcases hn with ⟨rfl, x, rfl, hpx, hfx, hgap⟩ | ⟨rfl, rfl, hgap⟩
  · have hx : x < N := by
      rcases Nat.lt_or_ge x N with h | h
      · exact h
      · rw [ht x h] at hfx; cases hfx
    have h1 := lst_step f p x hpx hfx hgap
    obtain ⟨q, hq⟩ := lst_prefix f (x + 1) N (by omega)
    have h2 : (lst f N).getD j 0 = x := by
      rw [hq, h1, List.append_assoc, List.getD_eq_getElem?_getD, List.getElem?_append_right (by omega)]
      simp [hlen]
    rw [h2]
    refine ⟨rfl, rfl, by omega, ?_⟩
    rw [h1, hq, h1]
    have : j + 1 = (lst f p ++ [x]).length := by simp [hlen]
    rw [this, List.take_left]
  · exfalso
    have := lst_gap f p N hp (fun k h1 _ => hgap k h1)
    rw [this] at hj
    omega
theorem goes_end (f : Nat → Bool) (N p : Nat) (r : Int) (t : Bool) (ht : ∀ i, N ≤ i → f i = false) (hp : p ≤ N) (he : lst f p = lst f N) (hn : NextIs f p r t) : t = false := by
  rcases hn with ⟨rfl, x, rfl, hpx, hfx, hgap⟩ | ⟨rfl, rfl, hgap⟩
  · exfalso
    have hx : x < N := by
      rcases Nat.lt_or_ge x N with h | h
      · exact h
      · rw [ht x h] at hfx; cases hfx
    have h1 := lst_step f p x hpx hfx hgap
    obtain ⟨q, hq⟩ := lst_prefix f (x + 1) N (by omega)
    have h2 := congrArg List.length (hq.trans (by rw [h1, he]))
    simp at h2
  · rfl
theorem hits_none (N : Nat) (zs : List Int) (hN : 1 ≤ N) (hN2 : N ≤ 4096) : (zs.length = 0) ↔ ((lst (hits N zs) N).length = 0) := by
  constructor
  · intro h
    have : zs = [] := List.length_eq_zero_iff.1 h
    subst this
    have := lst_gap (hits N []) 0 N (by omega) (fun k _ _ => rfl)
    rw [this]
    rfl
  · intro h
    cases zs with
    | nil => rfl
    | cons z zs =>
      exfalso
      obtain ⟨M, hM, hz⟩ := u64_tmod z N (by omega) (by omega)
      have h1 : M ∈ lst (hits N (z :: zs)) N := by
        unfold lst hits
        rw [List.mem_filter]
        exact ⟨List.mem_range.2 hM, by simp [hz]⟩
      have : lst (hits N (z :: zs)) N = [] := List.length_eq_zero_iff.1 h
      rw [this] at h1
      cases h1

theorem is_zero (n : Nat) (h : n = 0) : ((n : Int) == 0) = true := by subst h; rfl
theorem not_zero (n : Nat) (h : n ≠ 0) : ((n : Int) == 0) = false := by simp; omega

set_option maxHeartbeats 4000000 in
theorem goes_walk (n : Int) (ao : Option Addr) (cp : Nat) (zs : List Int) (w : World) (hz : ArgIn w ao zs) (hl : zs.length ≤ maxLen) (hT : Tab w) :
    Calls Tryd.prog 4 #[.int .i64 n, .slice ao zs.length cp] w fun e w' => e = .returned (.bool true) ∧ Below w.heap.size w w' := by
  obtain ⟨i0, hi, hz'⟩ := Option.map_eq_some_iff.1 Tryd.info3
  simp only [Prod.mk.injEq] at hz'
  obtain ⟨hz0, hz1, hz2⟩ := hz'
  have HI := hid hi
  have HZ0 := hid hz0
  have HZ1 := hid hz1
  have HZ2 := hid hz2
  clear hi hz0 hz1 hz2
  obtain ⟨N, hN1, hN2, hN0⟩ := mod_one n 200 (by decide) (by decide)
  have hN : wrap64 (1 + wrap64 ((IntKind.u64.wrap n).tmod 200)) = (N : Int) := hN0
  clear hN0
  have HZ := hid hz
  have HT := hid hT
  have HL := hid hl
  clear hz hT hl
  have hNi : (N : Int) ≤ 200 := by omega
  have hNi1 : (1 : Int) ≤ N := by omega
  have hNN : ((N : Int) == (N : Int)) = true := by simp
  go_enter Tryd.func4, Tryd.ntmps4
  go_wp2_with fail
  go_at_call 31
  refine (filled_is N ao cp zs w HZ.out HL.out (by omega) (by omega)).mono ?_
  rintro e w1 ⟨rfl, s1, b1, z1⟩
  have S1 := hid s1
  have B1 := hid b1
  have T1 : Hid (Tab w1) := HT.out.later b1
  have HN := hid (hits_none N zs hN1 (by omega))
  have Top := hid s1.top
  clear s1 b1 z1
  generalize hits N zs = f at *
  go_wp2_with (go_at_call 26; refine (bound_is _ _ _ _ _ S1.out).mono ?_; rintro e w' ⟨rfl, rfl⟩)
  go_loopg [6, 7, 32] N (fun g l _ i wr => ∃ k : Nat, k ≤ N ∧ N - k ≤ g ∧ i = .int .i64 k ∧ Aside (Ints w1.heap.size wr l (lst f k)) ∧ Aside (Below w1.heap.size w1 wr))
  case atStart => exact ⟨0, Nat.zero_le _, by omega, rfl, World.ownsRow_nil _ _ _ _, Below.refl _ _⟩
  case round =>
    obtain ⟨k, hk, hg, rfl, OX, BX⟩ := hrel
    by_cases hlt : k < N
    · have hlti : (k : Int) < N := by omega
      have HO := hid (lst_one f k)
      have SX : Hid (Is wr (w.heap.size + 1) N w.heap.size f) := S1.out.later BX.out
      cases hfk : f k
      · go_wp2_with (go_at_call 27; refine (has_is _ _ _ _ k _ SX.out hlt).mono ?_; rintro e w' ⟨rfl, rfl⟩)
        go_roundg (N - (k + 1))
        · exact ⟨k + 1, by omega, by omega, by go_num, by have h := HO.out; rw [hfk] at h; simp at h; rw [h]; exact OX.out, BX.out⟩
        · omega
      · have HLE := hid (lst_le f k)
        have hsz := hid BX.out.size
        go_wp2_with (first | (go_at_call 27; refine (has_is _ _ _ _ k _ SX.out hlt).mono ?_; rintro e w' ⟨rfl, rfl⟩) | (at_builtin; refine wpList_append_lies _ rfl _ _ 42 rfl w1.heap.size 3 i0 _ 1 8 Tryd.underlying42 HI.out HZ0.out HZ1.out HZ2.out rfl (by decide) u6 (lst f k).length (intsV (lst f k)) rfl ?hown ⟨wr.heap.size, 0, none⟩ 1 1 [.int .i64 k] rfl rfl ?hnews ?hone (by decide) ?h63 ?hby ?hbase (wr.heap.size + 1) ?hH ?_))
        case hown => exact World.ownsRow.alloc OX.out _
        case hnews => exact World.news_of_block (heap_alloc_new wr (.cells #[.int .i64 k] 3))
        case hone => intro u hu; simp at hu; subst hu; rfl
        case h63 => have := HLE.out; unfold maxLen; omega
        case hby => have := HLE.out; omega
        case hbase => have := hsz.out; simp; omega
        case hH => simp
        intro g cap w4 hown4 hgrow hat hglt
        have B4 : Hid (Below w1.heap.size w1 w4) := BX.out.trans (((below_box wr _).mono hsz.out).grown hgrow (by have := hsz.out; simp; omega) (fun x hx => (OX.out.lt x hx).1))
        have O4 : Hid (Ints w1.heap.size w4 (.slice (some ⟨g, 0, none⟩) ((lst f k).length + 1) cap) (lst f (k + 1))) := by
          unfold Ints intsV at *
          have h := HO.out
          rw [hfk] at h
          simp at h
          rw [h, List.map_append, List.length_append]
          exact hown4
        clear hown4 hgrow hat hglt
        go_wp2_with fail
        go_roundg (N - (k + 1))
        · exact ⟨k + 1, by omega, by omega, by go_num, O4.out, B4.out⟩
        · omega
    · have hlti : ¬ (k : Int) < N := by omega
      have ek : N = k := by omega
      subst ek
      obtain ⟨al, cl, hv, hA⟩ := OX.out.arg
      have HA := hid hA
      have HLE := hid (lst_le f N)
      have HCL := hid (lst_len f N)
      clear hA
      subst hv
      rw [List.length_map]
      have hll : ((lst f N).length : Int) ≤ 200 := by have := HLE.out; omega
      go_wp2_with fail
      have SX : Hid (Is wr (w.heap.size + 1) N w.heap.size f) := S1.out.later BX.out
      have TX : Hid (Tab wr) := T1.out.later BX.out
      go_loopg [8, 10, 11, 12, 45] (lst f N).length (fun g at' _ _ _ i wr2 => ∃ (j p : Nat), j ≤ (lst f N).length ∧ (lst f N).length - j ≤ g ∧ i = .int .i64 j ∧ at' = .int .i64 p ∧ p ≤ N ∧ Aside (lst f p = (lst f N).take j) ∧ wr = wr2)
      case atStart => exact ⟨0, 0, Nat.zero_le _, by omega, rfl, rfl, Nat.zero_le _, rfl, rfl⟩
      case round =>
        obtain ⟨j, p, hj, hg2, rfl, rfl, hp, EX, rfl⟩ := hrel
        have ep : (p : Int).toNat = p := by omega
        have hpi : (p : Int) ≤ 200 := by omega
        by_cases hjl : j < (lst f N).length
        · obtain ⟨bz, oz, rfl, hc⟩ := HA.out j (by rw [List.length_map]; exact hjl)
          have em : ((lst f N).map fun x : Nat => (x : Int)).getD j 0 = ((lst f N).getD j 0 : Nat) := by simp [hjl]
          rw [em] at hc
          have hjli : (j : Int) < (lst f N).length := by omega
          have GS : Hid (∀ r t, NextIs f p r t → _) := fun r t hn => goes_step f N p j r t Top.out hp hjl EX.out hn
          generalize (lst f N).getD j 0 = x at *
          go_wp2_with fail
          go_at_call 20
          refine (next_is _ _ _ _ _ _ SX.out TX.out).mono ?_
          rintro e w' ⟨⟨r, t, rfl, hn⟩, rfl⟩
          rw [ep] at hn
          obtain ⟨rfl, rfl, hx1, hx2⟩ := GS.out r t hn
          have HX2 := hid hx2
          have hxx : ((x : Int) == (x : Int)) = true := by simp
          have hxi : (x : Int) ≤ 200 := by omega
          clear hn hx2
          go_wp2_with fail
          go_roundg ((lst f N).length - (j + 1))
          · exact ⟨j + 1, x + 1, by omega, by omega, by go_num, by go_num, hx1, HX2.out, rfl⟩
          · omega
        · have hjli : ¬ (j : Int) < (lst f N).length := by omega
          have ej : j = (lst f N).length := by omega
          have EX2 : Hid (lst f p = lst f N) := by
            have h := EX.out
            rw [ej, List.take_length] at h
            exact h
          clear EX ej
          go_wp2_with fail
          go_at_call 20
          refine (next_is _ _ _ _ _ _ SX.out TX.out).mono ?_
          rintro e w' ⟨⟨r, t, rfl, hn⟩, rfl⟩
          rw [ep] at hn
          obtain rfl := goes_end f N p r t Top.out hp EX2.out hn
          clear hn
          go_wp2_with fail
          go_at_call 23
          refine (list_is _ _ _ _ _ SX.out TX.out).mono ?_
          rintro e w3 ⟨⟨v, rfl, hI⟩, b3⟩
          obtain ⟨av, cv, rfl, hA3⟩ := hI.arg
          have HA3 := hid hA3
          have B3 := hid b3
          clear hI b3 hA3
          rw [List.length_map]
          go_wp2_with fail
          have EQ := equal_same av al cv cl ((lst f N).map fun x : Nat => (x : Int)) w3 HA3.out (HA.out.later B3.out) (by have := HLE.out; rw [List.length_map]; unfold maxLen; omega)
          rw [List.length_map] at EQ
          refine EQ.mono ?_
          rintro e w4 ⟨rfl, q4, rfl⟩
          have B4 : Hid (Below wr.heap.size wr (w3.drewN q4)) := below_drewN B3.out q4
          have S4 : Hid (Is (w3.drewN q4) (w.heap.size + 1) N w.heap.size f) := SX.out.later B4.out
          have CL := count_is _ _ _ _ _ S4.out
          rw [← HCL.out] at CL
          have HC := hid CL
          have hcc : (((lst f N).length : Int) == ((lst f N).length : Int)) = true := by simp
          clear EQ CL
          by_cases hz0 : zs.length = 0
          · have q1 : ((zs.length : Int) == 0) = true := is_zero _ hz0
            have q2 : (((lst f N).length : Int) == 0) = true := is_zero _ (HN.out.1 hz0)
            go_wp2_with (go_at_call 25; refine HC.out.mono ?_; rintro e w' ⟨rfl, rfl⟩)
            go_ret
            exact ⟨rfl, B1.out.trans (BX.out.trans (B4.out.mono BX.out.size) |>.mono B1.out.size)⟩
          · have q1 : ((zs.length : Int) == 0) = false := not_zero _ hz0
            have q2 : (((lst f N).length : Int) == 0) = false := not_zero _ (fun h => hz0 (HN.out.2 h))
            go_wp2_with (go_at_call 25; refine HC.out.mono ?_; rintro e w' ⟨rfl, rfl⟩)
            go_ret
            exact ⟨rfl, B1.out.trans (BX.out.trans (B4.out.mono BX.out.size) |>.mono B1.out.size)⟩
end Go.Proofs.YtpkfpfflnncleaaDoor
