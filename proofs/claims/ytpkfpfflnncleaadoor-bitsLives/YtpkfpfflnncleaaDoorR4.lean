/-
  The walk of the law BitsLives.
-/
import Derived.Test.YtpkfpfflnncleaaDoorR3
import Derived.Test.YtpkfpfflnncleaaDoorB15
import Derived.Deep.CutRange
import Derived.Deep.RegionHeld3
import Derived.Deep.RegionWith
namespace Go.Proofs.YtpkfpfflnncleaaDoor
set_option linter.unusedVariables false
set_option linter.unusedSimpArgs false
open Go.RowKit

/-- A slice of calls that was handed in. -/
def ArgDo (w : World) (ao : Option Addr) (ds : List (Int × Int)) : Prop :=
  ∀ j, j < ds.length → ∃ b off, ao = some ⟨b, off, none⟩ ∧ w.cell? ⟨b, off + j * 2, none⟩ = some (.int .i64 (ds.getD j (0, 0)).1) ∧ w.cell? ⟨b, off + j * 2 + 1, none⟩ = some (.int .i64 (ds.getD j (0, 0)).2)
theorem ArgDo.later {w w' : World} {ao : Option Addr} {ds : List (Int × Int)} (h : ArgDo w ao ds) (hb : Below w.heap.size w w') : ArgDo w' ao ds := fun j hj => by
  obtain ⟨b, off, e, h1, h2⟩ := h j hj
  exact ⟨b, off, e, (hb.cell (p := ⟨b, off + j * 2, none⟩) (World.block_lt_of_cell? _ _ h1)).trans h1, (hb.cell (p := ⟨b, off + j * 2 + 1, none⟩) (World.block_lt_of_cell? _ _ h2)).trans h2⟩

/-- Two sets of the program beside two of the document, in blocks from H on. -/
def Two (H : Nat) (w : World) (bs bx bt by' : Nat) : Prop :=
  ∃ n cs cx m ct cy, ∃ f g : Nat → Bool, Is w bs n cs f ∧ Ref w bx n cx f ∧ Is w bt m ct g ∧ Ref w by' m cy g ∧ cs ≠ ct ∧ cx ≠ cy ∧ H ≤ cs ∧ H ≤ cx ∧ H ≤ ct ∧ H ≤ cy
theorem Two.later {H : Nat} {w w' : World} {bs bx bt by' : Nat} (h : Two H w bs bx bt by') (hb : Below w.heap.size w w') : Two H w' bs bx bt by' := by
  obtain ⟨n, cs, cx, m, ct, cy, f, g, h1, h2, h3, h4, h5⟩ := h
  exact ⟨n, cs, cx, m, ct, cy, f, g, h1.later hb, h2.later hb, h3.later hb, h4.later hb, h5⟩

theorem kept31 {W wa : World} {bs n cs kb : Nat} {f : Nat → Bool} {kc : Array Value} (i1 : Is W bs n cs f) (ba : Beside cs W wa) (kh : W.heap[kb]? = some (.cells kc 31)) : wa.heap[kb]? = some (.cells kc 31) := by
  obtain ⟨ws, s1, s2⟩ := i1.ex
  exact (ba.block kb (blt kh) (tags kh s1.row (by decide))).trans kh
theorem kept31r {W wa : World} {bx n cx kb : Nat} {f : Nat → Bool} {kc : Array Value} (i2 : Ref W bx n cx f) (ba : Beside cx W wa) (kh : W.heap[kb]? = some (.cells kc 31)) : wa.heap[kb]? = some (.cells kc 31) := by
  obtain ⟨cur, h1, h2, h3, h4⟩ := i2.ex
  exact (ba.block kb (blt kh) (tags kh h2 (by decide))).trans kh
theorem drewN_add (w : World) (a b : Nat) : (w.drewN a).drewN b = w.drewN (a + b) := by simp [World.drewN, Nat.add_assoc]
theorem is_ne {w : World} {b n c b2 n2 c2 : Nat} {f g : Nat → Bool} (h : Is w b n c f) (h' : Is w b2 n2 c2 g) : b2 ≠ c := by
  obtain ⟨ws, s1, s2⟩ := h.ex
  obtain ⟨vs, v1, v2⟩ := h'.ex
  exact tags v1.box s1.row (by decide)
/-- Both sets of a pair have been turned alike. -/
theorem two_after {H : Nat} {W wa wb : World} {bs bx bt by' n cs cx m ct cy kb : Nat} {f g f' : Nat → Bool} {kc : Array Value} (i1 : Is W bs n cs f) (i2 : Ref W bx n cx f) (i3 : Is W bt m ct g) (i4 : Ref W by' m cy g) (d1 : cs ≠ ct) (d2 : cx ≠ cy) (o1 : H ≤ cs) (o2 : H ≤ cx) (o3 : H ≤ ct) (o4 : H ≤ cy) (hW : H ≤ W.heap.size)
    (sa : Is wa bs n cs f') (ba : Beside cs W wa) (sb : Ref wb bx n cx f') (bb : Beside cx wa wb) (kh : W.heap[kb]? = some (.cells kc 31)) : Two H wb bs bx bt by' ∧ wb.heap[kb]? = some (.cells kc 31) ∧ Below H W wb := by
  have r := i2.beside_set i1 ba
  refine ⟨⟨n, cs, cx, m, ct, cy, f', g, sa.beside_ref r bb, sb, (i3.beside_set i1 (fun e => d1 e.symm) ba).beside_ref r bb, (i4.beside_set i1 ba).beside_ref r (fun e => d2 e.symm) bb, d1, d2, o1, o2, o3, o4⟩, kept31r r bb (kept31 i1 ba kh), ?_⟩
  exact (ba.below o1 hW).trans (bb.below o2 (Nat.le_trans hW ba.size))

/-- Whether a number is in, whatever the number. -/
def hasB (f : Nat → Bool) (i : Int) : Bool := decide (0 ≤ i) && f i.toNat
theorem has_any (b n c : Nat) (f : Nat → Bool) (i : Int) (w : World) (h : Is w b n c f) : Calls Tryd.prog 27 #[.pointer (some ⟨b, 0, none⟩), .int .i64 i] w fun e w' => e = .returned (.bool (hasB f i)) ∧ w = w' := by
  by_cases hi : 0 ≤ i ∧ i < n
  · obtain ⟨I, rfl⟩ : ∃ I : Nat, i = I := ⟨i.toNat, by omega⟩
    have e : hasB f (I : Int) = f I := by unfold hasB; simp
    rw [e]
    exact has_is b n c f I w h (by omega)
  · have e : hasB f i = false := by
      unfold hasB
      by_cases h0 : 0 ≤ i
      · rw [h.top i.toNat (by omega)]; simp
      · simp [h0]
    rw [e]
    exact has_off b n c f i w h (by omega)
theorem rhas_any (b n c : Nat) (f : Nat → Bool) (i : Int) (w : World) (h : Ref w b n c f) : Calls Tryd.prog 28 #[.pointer (some ⟨b, 0, none⟩), .int .i64 i] w fun e w' => e = .returned (.bool (hasB f i)) ∧ w = w' := by
  by_cases hi : 0 ≤ i ∧ i < n
  · obtain ⟨I, rfl⟩ : ∃ I : Nat, i = I := ⟨i.toNat, by omega⟩
    have e : hasB f (I : Int) = f I := by unfold hasB; simp
    rw [e]
    exact rhas_ok b n c f I w h (by omega)
  · have e : hasB f i = false := by
      unfold hasB
      by_cases h0 : 0 ≤ i
      · rw [h.top i.toNat (by omega)]; simp
      · simp [h0]
    rw [e]
    exact rhas_off b n c f i w h (by omega)
/-- A list of numbers that can be read. -/
def NatsIn (w : World) (ao : Option Addr) (l : List Nat) : Prop := ArgIn w ao (l.map fun x : Nat => (x : Int))
theorem NatsIn.later {w w' : World} {ao : Option Addr} {l : List Nat} (h : NatsIn w ao l) (hb : Below w.heap.size w w') : NatsIn w' ao l := ArgIn.later h hb
theorem list_nats (b n c : Nat) (f : Nat → Bool) (w : World) (h : Is w b n c f) (hT : Tab w) :
    Calls Tryd.prog 23 #[.pointer (some ⟨b, 0, none⟩)] w fun e w' => (∃ ao cp, e = .returned (.slice ao (lst f n).length cp) ∧ NatsIn w' ao (lst f n)) ∧ Below w.heap.size w w' := by
  refine (list_is b n c f w h hT).mono ?_
  rintro e w' ⟨⟨v, rfl, hI⟩, bl⟩
  obtain ⟨ao, cp, hv, hA⟩ := hI.arg
  rw [List.length_map] at hv
  exact ⟨⟨ao, cp, by rw [hv], hA⟩, bl⟩
theorem rlist_nats (b n c : Nat) (f : Nat → Bool) (w : World) (h : Ref w b n c f) :
    Calls Tryd.prog 24 #[.pointer (some ⟨b, 0, none⟩)] w fun e w' => (∃ ao cp, e = .returned (.slice ao (lst f n).length cp) ∧ NatsIn w' ao (lst f n)) ∧ Below w.heap.size w w' := by
  refine (rlist_is b n c f w h).mono ?_
  rintro e w' ⟨⟨v, rfl, hI⟩, bl⟩
  obtain ⟨ao, cp, hv, hA⟩ := hI.arg
  rw [List.length_map] at hv
  exact ⟨⟨ao, cp, by rw [hv], hA⟩, bl⟩
theorem equal_nats (a1 a2 : Option Addr) (c1 c2 : Nat) (l : List Nat) (w : World) (h1 : NatsIn w a1 l) (h2 : NatsIn w a2 l) (hl : l.length ≤ 4096) :
    Calls Tryd.prog 22 #[.slice a1 l.length c1, .slice a2 l.length c2] w fun e w' => e = .returned (.bool true) ∧ ∃ q, w' = w.drewN q := by
  have h := equal_same a1 a2 c1 c2 (l.map fun x : Nat => (x : Int)) w h1 h2 (by rw [List.length_map]; unfold maxLen; omega)
  rw [List.length_map] at h
  exact h
theorem count_len (b n c : Nat) (f : Nat → Bool) (w : World) (h : Is w b n c f) : Calls Tryd.prog 25 #[.pointer (some ⟨b, 0, none⟩)] w fun e w' => e = .returned (.int .i64 (lst f n).length) ∧ w = w' := by
  rw [lst_len]
  exact count_is b n c f w h

set_option maxHeartbeats 8000000 in
set_option maxRecDepth 100000 in
theorem lives_loop (n m : Int) (ao : Option Addr) (cp : Nat) (ds : List (Int × Int)) (w : World) (hz : ArgDo w ao ds) (hl : ds.length ≤ maxLen) (hT : Tab w) (hn : 0 ≤ n ∧ n ≤ 4096) (hm : 0 ≤ m ∧ m ≤ 4096) :
    Calls Tryd.prog 3 #[.int .i64 n, .int .i64 m, .slice ao ds.length cp] w fun e w' => e = .returned (.bool true) ∧ Below w.heap.size w w' := by
  unfold maxLen at hl
  obtain ⟨N, rfl⟩ : ∃ N : Nat, n = N := ⟨n.toNat, by omega⟩
  obtain ⟨M, rfl⟩ : ∃ M : Nat, m = M := ⟨m.toNat, by omega⟩
  have HZ := hid hz
  have HT := hid hT
  clear hz hT
  have hlen : (ds.length : Int) ≤ 9223372036854775807 := by omega
  go_enter Tryd.func3, Tryd.ntmps3
  go_wp2_with fail
  go_at_call 8
  refine (new_is N (by omega) w).mono ?_
  rintro e w1 ⟨rfl, s1, b1, z1⟩
  have S1 := hid s1
  have B1 := hid b1
  have y1 : w.heap.size + 2 ≤ w1.heap.size := by omega
  clear s1 b1 z1
  go_wp2_with fail
  go_at_call 9
  refine (rnew_ok N (by omega) w1).mono ?_
  rintro e w2 ⟨rfl, s2, b2, z2⟩
  have R2 := hid s2
  have S2 := hid (S1.out.later b2)
  have B2 : Hid (Below w.heap.size w w2) := B1.out.trans (b2.mono B1.out.size)
  have y2 : w1.heap.size + 2 ≤ w2.heap.size := by omega
  clear s2 b2 z2 S1 B1
  go_wp2_with fail
  go_at_call 8
  refine (new_is M (by omega) w2).mono ?_
  rintro e w3 ⟨rfl, s3, b3, z3⟩
  have S3 := hid s3
  have R3 := hid (R2.out.later b3)
  have Q3 := hid (S2.out.later b3)
  have B3 : Hid (Below w.heap.size w w3) := B2.out.trans (b3.mono B2.out.size)
  have y3 : w2.heap.size + 2 ≤ w3.heap.size := by omega
  clear s3 b3 z3 S2 B2 R2
  go_wp2_with fail
  go_at_call 9
  refine (rnew_ok M (by omega) w3).mono ?_
  rintro e w4 ⟨rfl, s4, b4, z4⟩
  have TW : Hid (Two w.heap.size w4 (w.heap.size + 1) (w1.heap.size + 1) (w2.heap.size + 1) (w3.heap.size + 1)) := ⟨N, _, _, M, _, _, _, _, Q3.out.later b4, R3.out.later b4, S3.out.later b4, s4, by omega, by omega, by omega, by omega, by omega, by omega⟩
  have B4 : Hid (Below w.heap.size w w4) := B3.out.trans (b4.mono B3.out.size)
  clear s4 b4 z4 S3 R3 Q3 B3 y1 y2 y3
  generalize w.heap.size + 1 = bs0 at *
  generalize w1.heap.size + 1 = bx0 at *
  generalize w2.heap.size + 1 = bt0 at *
  generalize w3.heap.size + 1 = by0 at *
  go_wp2_with fail
  go_loopg [7, 9, 11, 13, 80] ds.length (fun g s7 s9 s11 s13 i wr => ∃ j bs bx bt by' : Nat, j ≤ ds.length ∧ ds.length - j ≤ g ∧ i = .int .i64 j ∧ s7 = .pointer (some ⟨bs, 0, none⟩) ∧ s9 = .pointer (some ⟨bx, 0, none⟩) ∧ s11 = .pointer (some ⟨bt, 0, none⟩) ∧ s13 = .pointer (some ⟨by', 0, none⟩) ∧ Aside (Two w.heap.size wr bs bx bt by') ∧ Aside (Below w.heap.size w wr))
  case atStart => exact ⟨0, _, _, _, _, Nat.zero_le _, by omega, rfl, rfl, rfl, rfl, rfl, TW.out, B4.out⟩
  case round =>
    clear TW B4
    obtain ⟨j, bs, bx, bt, by', hj, hg, rfl, rfl, rfl, rfl, rfl, TX, BX⟩ := hrel
    by_cases hjl : j < ds.length
    · have hjli : (j : Int) < ds.length := by omega
      obtain ⟨bz, oz, rfl, k1, k2⟩ := HZ.out.later BX.out j hjl
      obtain ⟨⟨op, ix⟩, hd⟩ : ∃ d, ds.getD j (0, 0) = d := ⟨_, rfl⟩
      rw [hd] at k1 k2
      simp only at k1 k2
      clear hd
      obtain ⟨D, hD, hDm0⟩ := u64_tmod op 6 (by decide) (by decide)
      have hDm : (IntKind.u64.wrap op).tmod 6 = (D : Int) := hDm0
      clear hDm0
      go_upto_region 13 with fail
      go_cut [88] from 84 to 88 (fun s88 wc => s88 = .int .i64 D ∧ wc = wr.alloc (.cells #[.int .i64 op, .int .i64 ix] 31))
      case first =>
        go_wp2_with fail
        go_meet
        case rel => exact ⟨rfl, rfl⟩
      case rest =>
        obtain ⟨rfl, rfl⟩ := hcut
        apply ‹∀ (a : Act) (w : World), Code.wp Tryd.prog _ _ a w → _›
        have KB : Hid ((wr.alloc (.cells #[.int .i64 op, .int .i64 ix] 31)).heap[wr.heap.size]? = some (.cells #[.int .i64 op, .int .i64 ix] 31)) := heap_alloc_new wr _
        have T2 : Hid (Two w.heap.size (wr.alloc (.cells #[.int .i64 op, .int .i64 ix] 31)) bs bx bt by') := TX.out.later (below_box wr _)
        have B2 : Hid (Below w.heap.size w (wr.alloc (.cells #[.int .i64 op, .int .i64 ix] 31))) := BX.out.trans ((below_box wr _).mono BX.out.size)
        clear TX BX k1 k2
        generalize wr.alloc (.cells #[.int .i64 op, .int .i64 ix] 31) = W at *
        generalize wr.heap.size = kb at *
        have KC : W.cell? ⟨kb, 1, none⟩ = some (.int .i64 ix) := Lib.cell_of_heap KB.out 1
        go_cut [7, 9, 11, 13, 17] from 84 to 245 (fun s7 s9 s11 s13 s17 wc => ∃ b1 b2 b3 b4 : Nat, s7 = .pointer (some ⟨b1, 0, none⟩) ∧ s9 = .pointer (some ⟨b2, 0, none⟩) ∧ s11 = .pointer (some ⟨b3, 0, none⟩) ∧ s13 = .pointer (some ⟨b4, 0, none⟩) ∧ s17 = .bool true ∧ Two w.heap.size wc b1 b2 b3 b4 ∧ wc.cell? ⟨kb, 1, none⟩ = some (.int .i64 ix) ∧ Below w.heap.size w wc)
        case first =>
          obtain ⟨n', cs, cx, m', ct, cy, f, g, i1, i2, i3, i4, d1, d2, o1, o2, o3, o4⟩ := T2.out
          have I1 := hid i1
          have I2 := hid i2
          have I3 := hid i3
          have I4 := hid i4
          clear i1 i2 i3 i4
          have hD6 : D = 0 ∨ D = 1 ∨ D = 2 ∨ D = 3 ∨ D = 4 ∨ D = 5 := by omega
          rcases hD6 with rfl | rfl | rfl | rfl | rfl | rfl
          · by_cases hin : 0 ≤ ix ∧ ix < n'
            · as_aux_lemma =>
                obtain ⟨I, rfl⟩ : ∃ I : Nat, ix = I := ⟨ix.toNat, by omega⟩
                have hI : I < n' := by omega
                clear hin
                go_wp2_with fail
                go_region_with (first | (go_at_call 10; refine (add_is bs n' cs f I _ (I1.out.later ((Below.refl _ _).drew)) hI).mono ?_; rintro e wa ⟨rfl, sa, ba, za⟩; have SA := hid sa; have BA := hid ba; have KA := Lib.cell_of_heap (kept31 (I1.out.later ((Below.refl _ _).drew)) ba KB.out) 1; clear sa ba za) | (go_at_call 11; refine (radd_ok bx n' cx f I _ ((I2.out.later ((Below.refl _ _).drew)).beside_set (I1.out.later ((Below.refl _ _).drew)) BA.out) hI).mono ?_; rintro e wb ⟨rfl, sb, bb, zb⟩; have SB := hid sb; have BB := hid bb; clear sb bb zb))
                all_goals (try go_wp2_with fail)
                all_goals
                  go_meet
                  obtain ⟨q1, q2, q3⟩ := two_after (H := w.heap.size) (I1.out.later ((Below.refl _ _).drew)) (I2.out.later ((Below.refl _ _).drew)) (I3.out.later ((Below.refl _ _).drew)) (I4.out.later ((Below.refl _ _).drew)) d1 d2 o1 o2 o3 o4 B2.out.size SA.out BA.out SB.out BB.out KB.out
                  exact ⟨_, _, _, _, rfl, rfl, rfl, rfl, rfl, q1, Lib.cell_of_heap q2 1, B2.out.drew.trans q3⟩
            · as_aux_lemma =>
                have hout : ix < 0 ∨ (n' : Int) ≤ ix := by omega
                have Q1 : Hid (∀ q, Calls Tryd.prog 10 #[.pointer (some ⟨bs, 0, none⟩), .int .i64 ix] (W.drewN q) fun e w'' => e = .returned (.int .i64 1) ∧ ∃ m, w'' = W.drewN m) := fun q => quietly (add_off bs n' cs f ix (W.drewN q) (I1.out.drewN q) hout)
                have Q2 : Hid (∀ q, Calls Tryd.prog 11 #[.pointer (some ⟨bx, 0, none⟩), .int .i64 ix] (W.drewN q) fun e w'' => e = .returned (.int .i64 1) ∧ ∃ m, w'' = W.drewN m) := fun q => quietly (radd_off bx n' cx f ix (W.drewN q) (I2.out.drewN q) hout)
                clear hin hout
                go_wp2_with fail
                go_quiet ((first | (go_at_call 10; exact Q1.out _) | (go_at_call 11; exact Q2.out _)))
                go_wp2_with fail
                go_meet
                exact ⟨_, _, _, _, rfl, rfl, rfl, rfl, rfl, T2.out.later (below_drewN (Below.refl _ _) _), KC, below_drewN B2.out _⟩
          · by_cases hin : 0 ≤ ix ∧ ix < n'
            · as_aux_lemma =>
                obtain ⟨I, rfl⟩ : ∃ I : Nat, ix = I := ⟨ix.toNat, by omega⟩
                have hI : I < n' := by omega
                clear hin
                go_wp2_with fail
                go_region_with (first | (go_at_call 12; refine (drop_is bs n' cs f I _ (I1.out.later ((Below.refl _ _).drew)) hI).mono ?_; rintro e wa ⟨rfl, sa, ba, za⟩; have SA := hid sa; have BA := hid ba; have KA := Lib.cell_of_heap (kept31 (I1.out.later ((Below.refl _ _).drew)) ba KB.out) 1; clear sa ba za) | (go_at_call 13; refine (rdrop_ok bx n' cx f I _ ((I2.out.later ((Below.refl _ _).drew)).beside_set (I1.out.later ((Below.refl _ _).drew)) BA.out) hI).mono ?_; rintro e wb ⟨rfl, sb, bb, zb⟩; have SB := hid sb; have BB := hid bb; clear sb bb zb))
                all_goals (try go_wp2_with fail)
                all_goals
                  go_meet
                  obtain ⟨q1, q2, q3⟩ := two_after (H := w.heap.size) (I1.out.later ((Below.refl _ _).drew)) (I2.out.later ((Below.refl _ _).drew)) (I3.out.later ((Below.refl _ _).drew)) (I4.out.later ((Below.refl _ _).drew)) d1 d2 o1 o2 o3 o4 B2.out.size SA.out BA.out SB.out BB.out KB.out
                  exact ⟨_, _, _, _, rfl, rfl, rfl, rfl, rfl, q1, Lib.cell_of_heap q2 1, B2.out.drew.trans q3⟩
            · as_aux_lemma =>
                have hout : ix < 0 ∨ (n' : Int) ≤ ix := by omega
                have Q1 : Hid (∀ q, Calls Tryd.prog 12 #[.pointer (some ⟨bs, 0, none⟩), .int .i64 ix] (W.drewN q) fun e w'' => e = .returned (.int .i64 1) ∧ ∃ m, w'' = W.drewN m) := fun q => quietly (drop_off bs n' cs f ix (W.drewN q) (I1.out.drewN q) hout)
                have Q2 : Hid (∀ q, Calls Tryd.prog 13 #[.pointer (some ⟨bx, 0, none⟩), .int .i64 ix] (W.drewN q) fun e w'' => e = .returned (.int .i64 1) ∧ ∃ m, w'' = W.drewN m) := fun q => quietly (rdrop_off bx n' cx f ix (W.drewN q) (I2.out.drewN q) hout)
                clear hin hout
                go_wp2_with fail
                go_quiet ((first | (go_at_call 12; exact Q1.out _) | (go_at_call 13; exact Q2.out _)))
                go_wp2_with fail
                go_meet
                exact ⟨_, _, _, _, rfl, rfl, rfl, rfl, rfl, T2.out.later (below_drewN (Below.refl _ _) _), KC, below_drewN B2.out _⟩
          · by_cases hnm : n' = m'
            · as_aux_lemma =>
                subst hnm
                have hb1 : bt ≠ cs := is_ne I1.out I3.out
                go_wp2_with fail
                go_at_call 14
                refine (or_is bs n' cs f bt ct g W I1.out I3.out hb1 (fun e => d1 e.symm)).mono ?_
                rintro e wa ⟨⟨t, rfl, ht⟩, sa, ba, za⟩
                have SA := hid sa
                have BA := hid ba
                have HTT := hid ht
                have R2 : Hid (Ref wa bx n' cx f) := I2.out.beside_set I1.out ba
                have R4 : Hid (Ref wa by' n' cy g) := I4.out.beside_set I1.out ba
                clear sa ba za ht
                go_wp2_with fail
                go_at_call 15
                refine (ror_is bx n' cx f by' cy g wa R2.out R4.out (fun e => d2 e.symm)).mono ?_
                rintro e wb ⟨rfl, sb, bb, zb⟩
                have SB := hid sb
                have BB := hid bb
                have ET : chB f (fun i => f i || g i) n' = t := Bool.eq_iff_iff.2 ((chB_iff f (fun i => f i || g i) n' (fun i hi => by simp [I1.out.top i hi, I3.out.top i hi])).trans HTT.out.symm)
                rw [ET]
                clear sb bb zb ET
                have htt : (t == t) = true := by simp
                go_wp2_with fail
                go_meet
                obtain ⟨q1, q2, q3⟩ := two_after (H := w.heap.size) I1.out I2.out I3.out I4.out d1 d2 o1 o2 o3 o4 B2.out.size SA.out BA.out SB.out BB.out KB.out
                exact ⟨_, _, _, _, rfl, rfl, rfl, rfl, rfl, q1, Lib.cell_of_heap q2 1, B2.out.trans q3⟩
            · as_aux_lemma =>
                have HNM := hid hnm
                clear hnm
                go_wp2_with fail
                go_at_call 14
                refine (or_off bs n' cs f bt m' ct g W I1.out I3.out HNM.out).mono ?_
                rintro e wa ⟨rfl, q, rfl⟩
                go_wp2_with fail
                go_at_call 15
                refine (ror_off bx n' cx f by' m' cy g _ (I2.out.drewN q) (I4.out.drewN q) HNM.out).mono ?_
                rintro e wb ⟨rfl, q', rfl⟩
                go_wp2_with fail
                go_meet
                exact ⟨_, _, _, _, rfl, rfl, rfl, rfl, rfl, T2.out.later (below_drewN (Below.refl _ _) _), KC, below_drewN B2.out _⟩
          · by_cases hnm : n' = m'
            · as_aux_lemma =>
                subst hnm
                have hb1 : bt ≠ cs := is_ne I1.out I3.out
                go_wp2_with fail
                go_at_call 16
                refine (and_is bs n' cs f bt ct g W I1.out I3.out hb1 (fun e => d1 e.symm)).mono ?_
                rintro e wa ⟨⟨t, rfl, ht⟩, sa, ba, za⟩
                have SA := hid sa
                have BA := hid ba
                have HTT := hid ht
                have R2 : Hid (Ref wa bx n' cx f) := I2.out.beside_set I1.out ba
                have R4 : Hid (Ref wa by' n' cy g) := I4.out.beside_set I1.out ba
                clear sa ba za ht
                go_wp2_with fail
                go_at_call 17
                refine (rand_is bx n' cx f by' cy g wa R2.out R4.out (fun e => d2 e.symm)).mono ?_
                rintro e wb ⟨rfl, sb, bb, zb⟩
                have SB := hid sb
                have BB := hid bb
                have ET : chB f (fun i => f i && g i) n' = t := Bool.eq_iff_iff.2 ((chB_iff f (fun i => f i && g i) n' (fun i hi => by simp [I1.out.top i hi, I3.out.top i hi])).trans HTT.out.symm)
                rw [ET]
                clear sb bb zb ET
                have htt : (t == t) = true := by simp
                go_wp2_with fail
                go_meet
                obtain ⟨q1, q2, q3⟩ := two_after (H := w.heap.size) I1.out I2.out I3.out I4.out d1 d2 o1 o2 o3 o4 B2.out.size SA.out BA.out SB.out BB.out KB.out
                exact ⟨_, _, _, _, rfl, rfl, rfl, rfl, rfl, q1, Lib.cell_of_heap q2 1, B2.out.trans q3⟩
            · as_aux_lemma =>
                have HNM := hid hnm
                clear hnm
                go_wp2_with fail
                go_at_call 16
                refine (and_off bs n' cs f bt m' ct g W I1.out I3.out HNM.out).mono ?_
                rintro e wa ⟨rfl, q, rfl⟩
                go_wp2_with fail
                go_at_call 17
                refine (rand_off bx n' cx f by' m' cy g _ (I2.out.drewN q) (I4.out.drewN q) HNM.out).mono ?_
                rintro e wb ⟨rfl, q', rfl⟩
                go_wp2_with fail
                go_meet
                exact ⟨_, _, _, _, rfl, rfl, rfl, rfl, rfl, T2.out.later (below_drewN (Below.refl _ _) _), KC, below_drewN B2.out _⟩
          · as_aux_lemma =>
              go_wp2_with fail
              go_meet
              exact ⟨_, _, _, _, rfl, rfl, rfl, rfl, rfl, ⟨m', ct, cy, n', cs, cx, g, f, I3.out, I4.out, I1.out, I2.out, fun e => d1 e.symm, fun e => d2 e.symm, o3, o4, o1, o2⟩, KC, B2.out⟩
          · as_aux_lemma =>
              have hc1 := I1.out.blt
              have hc2 := I2.out.blt
              go_wp2_with fail
              go_at_call 18
              refine (copy_is bs n' cs f W I1.out).mono ?_
              rintro e wa ⟨rfl, sa, ba, za⟩
              have SA := hid sa
              have BA := hid ba
              have R2 : Hid (Ref wa bx n' cx f) := I2.out.later ba
              have I1a : Hid (Is wa bs n' cs f) := I1.out.later ba
              have hWa : W.heap.size ≤ wa.heap.size := ba.size
              have hWb : w.heap.size ≤ W.heap.size := B2.out.size
              clear sa ba za
              go_wp2_with fail
              go_at_call 19
              refine (rcopy_is bx n' cx f wa R2.out).mono ?_
              rintro e wb ⟨⟨b', c', rfl, sb, hb', hc'⟩, bb⟩
              have SB := hid sb
              have BB := hid bb
              clear sb bb
              go_wp2_with fail
              go_meet
              exact ⟨_, _, _, _, rfl, rfl, rfl, rfl, rfl, ⟨n', cs, cx, n', _, c', f, f, I1a.out.later BB.out, R2.out.later BB.out, SA.out.later BB.out, SB.out, by omega, by omega, o1, o2, by omega, by omega⟩, ((BA.out.trans (BB.out.mono BA.out.size)).cell (p := ⟨kb, 1, none⟩) (World.block_lt_of_cell? _ _ KC)).trans KC, B2.out.trans ((BA.out.trans (BB.out.mono BA.out.size)).mono B2.out.size)⟩
        case rest =>
          as_aux_lemma =>
            obtain ⟨b1, b2, b3, b4, rfl, rfl, rfl, rfl, rfl, T3, K3, B3⟩ := hcut
            have HT3 := hid T3
            obtain ⟨n', cs, cx, m', ct, cy, f, g, i1, i2, i3, i4, d1, d2, o1, o2, o3, o4⟩ := T3
            obtain ⟨cap, hcap, X3, -, -⟩ := i2.cells
            have I1 := hid i1
            have I2 := hid i2
            have I3 := hid i3
            have I4 := hid i4
            have HB3 := hid B3
            have TB : Hid (Tab wc) := HT.out.later B3
            have hbn : n' ≤ 4096 := i1.bound
            have hbm : m' ≤ 4096 := i3.bound
            have LE1 := hid (lst_le f n')
            have LE2 := hid (lst_le g m')
            have hl1 : ((lst f n').length : Int) ≤ 4096 := by have := LE1.out; omega
            have hl2 : ((lst g m').length : Int) ≤ 4096 := by have := LE2.out; omega
            clear i1 i2 i3 i4 B3 T2 B2 KB KC
            go_wp2_with fail
            go_at_call 20
            refine (next_is _ _ _ _ _ _ I1.out TB.out).mono ?_
            rintro e w' ⟨⟨r, t, rfl, hN⟩, rfl⟩
            have N1 := hid hN
            clear hN
            go_wp2_with fail
            go_at_call 21
            refine (rnext_is _ _ _ _ _ _ I2.out).mono ?_
            rintro e w' ⟨⟨r2, t2, rfl, hN⟩, rfl⟩
            obtain ⟨rfl, rfl⟩ := NextIs.unique N1.out hN
            clear hN N1
            go_wp2_with fail
            have LN1 : Hid ((lst f n').length ≤ 4096) := Nat.le_trans (lst_le f n') hbn
            have LN2 : Hid ((lst g m').length ≤ 4096) := Nat.le_trans (lst_le g m') hbm
            have GB : Hid (Below wc.heap.size wc wc.drew) := (Below.refl _ _).drew
            have KW := hid K3
            have XW := hid X3
            simp only [List.append_eq, List.cons_append, List.nil_append]
            go_region_held3 (fun w' => w'.cell? ⟨kb, 1, none⟩ = some (.int .i64 ix) ∧ w'.cell? ⟨b2, 0, none⟩ = some (.slice (some ⟨cx, 0, none⟩) n' cap)) (go_keep) (first
              | (go_at_call 23; refine (list_nats _ _ _ _ _ (by first | exact I1.out.later GB.out | exact I3.out.later GB.out) (TB.out.later GB.out)).mono ?_; rintro e w' ⟨⟨av, cv, rfl, hA⟩, bl⟩; have LA := hid hA; replace GB : Hid (Below wc.heap.size wc w') := GB.out.trans (bl.mono GB.out.size); have kk : w'.cell? ⟨kb, 1, none⟩ = some (.int .i64 ix) := (GB.out.cell (p := ⟨kb, 1, none⟩) (World.block_lt_of_cell? _ _ KW.out)).trans KW.out; have xx : w'.cell? ⟨b2, 0, none⟩ = some (.slice (some ⟨cx, 0, none⟩) n' cap) := (GB.out.cell (p := ⟨b2, 0, none⟩) (World.block_lt_of_cell? _ _ XW.out)).trans XW.out; clear hA bl)
              | (go_at_call 24; refine (rlist_nats _ _ _ _ _ (by first | exact I2.out.later GB.out | exact I4.out.later GB.out)).mono ?_; rintro e w' ⟨⟨aw, cw, rfl, hA⟩, bl⟩; have LB := hid hA; have LA := hid (LA.out.later bl); replace GB : Hid (Below wc.heap.size wc w') := GB.out.trans (bl.mono GB.out.size); have kk : w'.cell? ⟨kb, 1, none⟩ = some (.int .i64 ix) := (GB.out.cell (p := ⟨kb, 1, none⟩) (World.block_lt_of_cell? _ _ KW.out)).trans KW.out; have xx : w'.cell? ⟨b2, 0, none⟩ = some (.slice (some ⟨cx, 0, none⟩) n' cap) := (GB.out.cell (p := ⟨b2, 0, none⟩) (World.block_lt_of_cell? _ _ XW.out)).trans XW.out; clear hA bl)
              | (go_at_call 24; refine (rlist_nats _ _ _ _ _ (I2.out.later GB.out)).mono ?_; rintro e w' ⟨⟨aw, cw, rfl, hA⟩, bl⟩; replace GB : Hid (Below wc.heap.size wc w') := GB.out.trans (bl.mono GB.out.size); have kk : w'.cell? ⟨kb, 1, none⟩ = some (.int .i64 ix) := (GB.out.cell (p := ⟨kb, 1, none⟩) (World.block_lt_of_cell? _ _ KW.out)).trans KW.out; have xx : w'.cell? ⟨b2, 0, none⟩ = some (.slice (some ⟨cx, 0, none⟩) n' cap) := (GB.out.cell (p := ⟨b2, 0, none⟩) (World.block_lt_of_cell? _ _ XW.out)).trans XW.out; clear hA bl)
              | (go_at_call 22; refine (equal_nats _ _ _ _ _ _ LA.out LB.out (by first | exact LN1.out | exact LN2.out)).mono ?_; rintro e w' ⟨rfl, q, rfl⟩; replace GB := hid (below_drewN GB.out q))
              | (go_at_call 25; refine (count_len _ _ _ _ _ (I1.out.later GB.out)).mono ?_; rintro e w' ⟨rfl, rfl⟩)
              | (go_at_call 26; refine (bound_is _ _ _ _ _ (I1.out.later GB.out)).mono ?_; rintro e w' ⟨rfl, rfl⟩)
              | (go_at_call 27; refine (has_any _ _ _ _ _ _ (I1.out.later GB.out)).mono ?_; rintro e w' ⟨rfl, rfl⟩)
              | (go_at_call 28; refine (rhas_any _ _ _ _ _ _ (I2.out.later GB.out)).mono ?_; rintro e w' ⟨rfl, rfl⟩)
              | (go_at_call 29; refine (same_is _ _ _ _ _ _ _ _ _ (I1.out.later GB.out) (I3.out.later GB.out)).mono ?_; rintro e w' ⟨⟨ts, rfl, hts⟩, q, rfl⟩; have HTS := hid hts; replace GB := hid (below_drewN GB.out q); clear hts)
              | (go_at_call 30; refine (rsame_is _ _ _ _ _ _ _ _ _ (I2.out.later GB.out) (I4.out.later GB.out)).mono ?_; rintro e w' ⟨⟨tr, rfl, htr⟩, q, rfl⟩; obtain rfl : tr = ts := Bool.eq_iff_iff.2 (htr.trans HTS.out.symm); replace GB := hid (below_drewN GB.out q); clear htr))
            all_goals (try go_wp2_with fail)
            have gb := GB.out
            rw [drewN_add] at gb
            have GC := hid gb
            clear gb GB
            go_roundg (ds.length - (j + 1))
            · exact ⟨j + 1, b1, b2, b3, b4, by omega, by omega, by go_num, rfl, rfl, rfl, rfl, HT3.out.later GC.out, HB3.out.trans (GC.out.mono HB3.out.size)⟩
            · omega
    · have hjli : ¬ (j : Int) < ds.length := by omega
      obtain ⟨n', cs, cx, m', ct, cy, f, g, h1, h2, h3, h4, h5⟩ := TX.out
      obtain ⟨cap, hcap, X3, -, -⟩ := h2.cells
      have QB : Hid (∀ q, Calls Tryd.prog 26 #[.pointer (some ⟨bs, 0, none⟩)] (wr.drewN q) fun e w'' => e = .returned (.int .i64 n') ∧ ∃ m, w'' = wr.drewN m) := fun q => quietly (bound_is bs n' cs f (wr.drewN q) (h1.drewN q))
      have hnn : ((n' : Int) == (n' : Int)) = true := by simp
      clear h1 h2 h3 h4 h5
      go_wp2_with fail
      go_quiet ((go_at_call 26; exact QB.out _))
      go_wp2_with fail
      go_ret
      exact ⟨rfl, below_drewN BX.out _⟩
end Go.Proofs.YtpkfpfflnncleaaDoor
