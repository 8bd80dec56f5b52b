/-
  The law GraphOrder.
-/
import Derived.Test.YtpkfpfflnncleabDoorM4
namespace Go.Proofs.YtpkfpfflnncleabDoor
set_option linter.unusedVariables false
set_option linter.unusedSimpArgs false
open Go.RowKit Go.Lib

theorem RefG.past {w w' : World} (hp : Past w w') {b2 n : Nat} {v : Value} {rw' : Nat → Nat} {L' : Nat → Nat → Nat} (h2 : RefG w b2 n v rw' L') : RefG w' b2 n v rw' L' := by
  refine ⟨hp.at h2.box (by decide), ⟨h2.rows.1, ?_⟩, fun i hi => ?_, h2.apart, h2.small, h2.bound⟩
  · rcases h2.rows.2 with h1 | ⟨g, cap, cur, h1, h3, h4, h5⟩
    · exact .inl h1
    · exact .inr ⟨g, cap, cur, h1, h3, hp.at h4 (by decide), h5⟩
  · obtain ⟨cur, h1, h3⟩ := h2.each i hi
    exact ⟨cur, hp.at h1 (by decide), h3⟩
theorem BothF.past {H : Nat} {w w' : World} {b n b2 : Nat} {L : Nat → Nat → Nat} (h : BothF H w b n b2 L) (hp : Past w w') : BothF H w' b n b2 L := by
  obtain ⟨r, bk, ck, v, rw', h1, h2, h3⟩ := h
  exact ⟨r, bk, ck, v, rw', h1.past hp, h2.past hp, h3⟩
theorem own_below {B : Nat} {w w' : World} {v : Value} {n : Nat} {xs : List Value} (h : w.ownsRow B 41 3 v n xs) (hb : Below w.heap.size w w') : w'.ownsRow B 41 3 v n xs := by
  refine ⟨h.1, ?_⟩
  rcases h.2 with h1 | ⟨g, cap, cur, hv, hg, hh, hr⟩
  · exact .inl h1
  · exact .inr ⟨g, cap, cur, hv, hg, (hb.block g (blt hh)).trans hh, hr⟩
theorem own_lt {B : Nat} {w : World} {v : Value} {n g : Nat} {xs : List Value} (h : w.ownsRow B 41 3 v n xs) (hg : v.ownBlock = some g) : B ≤ g := by
  rcases h.2 with ⟨hv, hn⟩ | ⟨g', cap, cur, hv, hB, hh, hr⟩
  · rw [hv] at hg; simp [Value.ownBlock] at hg
  · rw [hv] at hg
    have : g' = g := by simpa [Value.ownBlock] using hg
    subst this
    exact hB
/-- The end of the law: two drawn graphs of the same labels. -/
def TwoG (w : World) (n : Nat) (L : Nat → Nat → Nat) (b b2 c c2 : Nat) : Prop := BothF 0 w b n b2 L ∧ BothF 0 w c n c2 L
theorem BothF.zero {H : Nat} {w : World} {b n b2 : Nat} {L : Nat → Nat → Nat} (h : BothF H w b n b2 L) : BothF 0 w b n b2 L := by
  obtain ⟨r, bk, ck, v, rw', h1, h2, h3, h4⟩ := h
  exact ⟨r, bk, ck, v, rw', h1, h2, fun _ _ => Nat.zero_le _, fun _ _ => Nat.zero_le _⟩

set_option maxHeartbeats 8000000 in
set_option maxRecDepth 100000 in
theorem gorder_walk (n0 : Int) (ao : Option Addr) (cp : Nat) (es : List (Int × Int × Int)) (w : World) (hz : ArgE w ao es) (hl : es.length ≤ 1048576) (hnil : ao = none → cp = 0 ∧ es = []) (hT : Tab w) :
    Calls Tryd.prog 5 #[.int .i64 n0, .slice ao es.length cp] w fun e w' => e = .returned (.bool true) ∧ Below w.heap.size w w' := by
  obtain ⟨i0, hi, hz'⟩ := Option.map_eq_some_iff.1 Tryd.infoEdge
  simp only [Prod.mk.injEq] at hz'
  obtain ⟨hz0, hz1, hz2⟩ := hz'
  have HI := hid hi
  have HZ0 := hid hz0
  have HZ1 := hid hz1
  have HZ2 := hid hz2
  clear hi hz0 hz1 hz2
  obtain ⟨N, hn, hD0⟩ := u64_tmod n0 30 (by decide) (by decide)
  have hD : (IntKind.u64.wrap n0).tmod 30 = (N : Int) := hD0
  clear hD0
  have HZ := hid hz
  have TB := hid hT
  have HN := hid hnil
  have HL := hid hl
  have hli : (es.length : Int) ≤ 1048576 := by omega
  clear hz hT hnil
  have hni : (N : Int) < 30 := by omega
  obtain ⟨n, e2⟩ : ∃ n : Nat, (2 + (N : Int)) = (n : Int) := ⟨N + 2, by omega⟩
  have e3 : (N : Int) + 2 = (n : Int) := by omega
  have hN : n ≤ 300 := by omega
  go_enter Tryd.func5, Tryd.ntmps5
  go_wp2_with fail
  clear hD e2 e3 hni hn
  go_at_call 21
  refine (cloneE_any ao cp es w (by omega) HZ.out).mono ?_
  rintro e w1 ⟨v1, rfl, o1, b1⟩
  have O1 := hid o1
  have B1 := hid b1
  obtain ⟨va, vc, hv1, -⟩ := own_arg o1
  clear o1 b1
  have V1 := hid hv1
  subst hv1
  go_wp2_with fail
  go_at_call 22
  refine (reverseE_own w.heap.size (.slice va es.length vc) es w1 O1.out hl B1.out.size).mono ?_
  rintro e w2 ⟨rfl, o2, b2⟩
  have O2 := hid o2
  have B2 := hid (B1.out.trans b2)
  have Z2 := hid (HZ.out.later (B1.out.trans b2))
  have T2 := hid (TB.out.later (B1.out.trans b2))
  clear o2 b2 O1 B1
  go_wp2_with fail
  go_at_call 8
  refine (drawn_F n hN ao cp es w2 Z2.out (by unfold maxLen; omega)).mono ?_
  rintro e w3 ⟨⟨b, b2, rfl, g3⟩, bl3⟩
  have G3 := hid g3
  have O3 := hid (own_below O2.out bl3)
  have B3 := hid (B2.out.trans (bl3.mono B2.out.size))
  have Z3 := hid (Z2.out.later bl3)
  have T3 := hid (T2.out.later bl3)
  clear g3 bl3 O2 B2 Z2 T2
  have KEY : ∀ v4 w4, w4.ownsRow w.heap.size 41 3 v4 (es.reverse ++ es).length (esV (es.reverse ++ es)) → w3.grownBy w4 (Value.slice va es.length vc).ownBlock → (∃ a c, v4 = .slice a (es.reverse ++ es).length c ∧ ArgE w4 a (es.reverse ++ es)) ∧ BothF 0 w4 b n b2 (es.foldl (stepI n) (fun _ _ => 0)) ∧ Tab w4 ∧ Below w.heap.size w w4 := by
    intro v4 w4 o4 g4
    have hb4 : Below w.heap.size w3 w4 := ⟨g4.os, g4.tape, g4.output, g4.size, fun k hk => g4.block k (Nat.lt_of_lt_of_le hk B3.out.size) (fun e => by have := own_lt O3.out e.symm; omega)⟩
    refine ⟨?_, G3.out.zero.past (Past.grown O3.out g4), TB.out.later (B3.out.trans hb4), B3.out.trans hb4⟩
    obtain ⟨a, c, h1, h2⟩ := own_arg o4
    exact ⟨a, c, h1, h2⟩
  have KK := hid KEY
  clear KEY
  have OT : Hid (w3.ownsRow w.heap.size 41 3 (.slice va es.length vc) es.length (esV es.reverse)) := by
    have h := O3.out
    rw [List.length_reverse] at h
    exact h
  have FSx : Hid ((es.reverse ++ es).foldl (stepI n) (fun _ _ => 0) = es.foldl (stepI n) (fun _ _ => 0)) := foldI_same n _ _ _ (fun e => by simp)
  have L2 : Hid ((es.reverse ++ es).length ≤ 2097152) := by
    show (es.reverse ++ es).length ≤ _
    rw [List.length_append, List.length_reverse]
    omega
  have END : Hid (∀ (v4 : Value) (w4 : World), (∃ a c, v4 = .slice a (es.reverse ++ es).length c ∧ ArgE w4 a (es.reverse ++ es)) → BothF 0 w4 b n b2 (es.foldl (stepI n) (fun _ _ => 0)) → Tab w4 → Below w.heap.size w w4 → Calls Tryd.prog 8 #[.int .i64 n, v4] w4 fun e w5 => (∃ c c2, e = .returned (.tuple #[.pointer (some ⟨c, 0, none⟩), .pointer (some ⟨c2, 0, none⟩), .bool true]) ∧ TwoG w5 n (es.foldl (stepI n) (fun _ _ => 0)) b b2 c c2) ∧ Tab w5 ∧ Below w.heap.size w w5) := by
    rintro v4 w4 ⟨a, c, rfl, ha⟩ hb ht hw
    refine (drawn_F n hN a c (es.reverse ++ es) w4 ha (by have := L2.out; unfold maxLen; omega)).mono ?_
    rintro e w5 ⟨⟨b', b2', rfl, g5⟩, bl5⟩
    rw [FSx.out] at g5
    exact ⟨⟨b', b2', rfl, hb.later bl5, g5.zero⟩, ht.later bl5, hw.trans (bl5.mono hw.size)⟩
  have ANY : Hid (∀ (v4 : Value) (w4 : World), w4.ownsRow w.heap.size 41 3 v4 (es.length + es.length) (esV es.reverse ++ esV es) → w3.grownBy w4 (Value.slice va es.length vc).ownBlock → Calls Tryd.prog 8 #[.int .i64 n, v4] w4 fun e w5 => (∃ c c2, e = .returned (.tuple #[.pointer (some ⟨c, 0, none⟩), .pointer (some ⟨c2, 0, none⟩), .bool true]) ∧ TwoG w5 n (es.foldl (stepI n) (fun _ _ => 0)) b b2 c c2) ∧ Tab w5 ∧ Below w.heap.size w w5) := by
    intro v4 w4 o4 g4
    rw [← esV_app] at o4
    have hlen : (es.reverse ++ es).length = es.length + es.length := by rw [List.length_append, List.length_reverse]
    rw [← hlen] at o4
    obtain ⟨k1, k2, k3, k4⟩ := KK.out v4 w4 o4 g4
    exact END.out v4 w4 k1 k2 k3 k4
  have SM : Hid (∀ f t, es.foldl (stepI n) (fun _ _ => 0) f t < 16) := by
    obtain ⟨r, bk, ck, v, rw', h1, -⟩ := G3.out
    exact h1.small
  clear KK END FSx L2 T3 G3 O3
  generalize es.foldl (stepI n) (fun _ _ => 0) = L at *
  have hED := ed_len L n hN
  have hEDi : ((ed L n).length : Int) ≤ 1000000 := by omega
  have hqq : (((ed L n).length : Int) == ((ed L n).length : Int)) = true := by simp
  cases ao with
  | none =>
    obtain ⟨rfl, hes⟩ := HN.out rfl
    subst hes
    have ANN : Hid (Calls Tryd.prog 8 #[.int .i64 n, .slice va 0 vc] w3 fun e w5 => (∃ c c2, e = .returned (.tuple #[.pointer (some ⟨c, 0, none⟩), .pointer (some ⟨c2, 0, none⟩), .bool true]) ∧ TwoG w5 n L b b2 c c2) ∧ Tab w5 ∧ Below w.heap.size w w5) := ANY.out (.slice va 0 vc) w3 OT.out ⟨rfl, rfl, rfl, Nat.le_refl _, fun _ _ _ => rfl⟩
    clear ANY
    go_wp2_with (at_builtin; refine wpList_append_own_none rfl _ _ 22 rfl w.heap.size 41 i0 3 Tryd.underlying22 HI.out (.slice va 0 vc) 0 [] rfl OT.out rfl ?_)
    go_wp2_with fail
    go_at_call 8
    refine ANN.out.mono ?_
    rintro e w5 ⟨⟨c, c2, rfl, ⟨r, bk, ck, v, rw', g1, r1, -, -⟩, r', bk', ck', v', rw2, g2, r2, -, -⟩, t5, b5⟩
    have G1 := hid g1
    have R1 := hid r1
    have G2 := hid g2
    have R2 := hid r2
    have T5 := hid t5
    have B5 := hid b5
    clear g1 r1 g2 r2 t5 b5
    go_wp2_with fail
    go_at_call 11
    refine (gsame_is b n r bk ck L b2 v rw' w5 G1.out R1.out T5.out).mono ?_
    rintro e w6 ⟨rfl, bl⟩
    have G6 := hid (G1.out.later bl)
    have K6 := hid (G2.out.later bl)
    have R6 := hid (R2.out.later bl)
    have T6 := hid (T5.out.later bl)
    have B6 := hid (B5.out.trans (bl.mono B5.out.size))
    clear bl G1 R1 G2 R2 T5 B5
    go_wp2_with fail
    go_at_call 11
    refine (gsame_is c n r' bk' ck' L c2 v' rw2 w6 K6.out R6.out T6.out).mono ?_
    rintro e w7 ⟨rfl, bl⟩
    have G7 := hid (G6.out.later bl)
    have K7 := hid (K6.out.later bl)
    have T7 := hid (T6.out.later bl)
    have B7 := hid (B6.out.trans (bl.mono B6.out.size))
    clear bl G6 K6 R6 T6 B6
    go_wp2_with fail
    go_at_call 19
    refine (edges_ed b n r bk ck L w7 G7.out T7.out).mono ?_
    rintro e w8 ⟨⟨a8, c8, rfl, hA⟩, bl⟩
    have A8 := hid hA
    have K8 := hid (K7.out.later bl)
    have T8 := hid (T7.out.later bl)
    have B8 := hid (B7.out.trans (bl.mono B7.out.size))
    clear bl hA G7 K7 T7 B7
    go_wp2_with fail
    go_at_call 19
    refine (edges_ed c n r' bk' ck' L w8 K8.out T8.out).mono ?_
    rintro e w9 ⟨⟨a9, c9, rfl, hA⟩, bl⟩
    have A9 := hid hA
    have C9 := hid (A8.out.later bl)
    have B9 := hid (B8.out.trans (bl.mono B8.out.size))
    clear bl hA K8 T8 B8 A8
    go_wp2_with fail
    go_at_call 18
    refine (equal_edges a8 a9 c8 c9 (ed L n) w9 C9.out A9.out hED).mono ?_
    rintro e w' ⟨rfl, q, rfl⟩
    go_wp2_with fail
    go_ret
    exact ⟨rfl, below_drewN B9.out q⟩
  | some ad =>
    have AC : Hid (∀ j u, (esV es)[j]? = some u → w3.cell? (ad.add j) = some u) := by
      intro j u hj
      have hlt : j < es.length * 3 := by rw [← esV_len]; exact (List.getElem?_eq_some_iff.1 hj).1
      obtain ⟨bz, oz, hbz, -⟩ := Z3.out 0 (by omega)
      cases hbz
      rw [Addr.add_lit]
      exact esV_cell Z3.out j u hj
    go_wp2_with (at_builtin; refine wpList_append_own _ rfl _ _ 22 rfl w.heap.size 41 i0 (.agg #[.int .i64 0, .int .i64 0, .int .i64 0]) 3 24 Tryd.underlying22 HI.out HZ0.out HZ1.out HZ2.out rfl (by decide) (.slice va es.length vc) es.length (esV es.reverse) rfl OT.out ad es.length cp (esV es) rfl (esV_len es) AC.out (esV_one es) ?h63 ?hby ?hbase ?_)
    case h63 => unfold maxLen; omega
    case hby => omega
    case hbase => exact B3.out.size
    intro v4 w4 o4 g4 h4
    have A4 := hid (ANY.out v4 w4 o4 g4)
    clear o4 g4 h4
    go_wp2_with fail
    go_at_call 8
    refine A4.out.mono ?_
    rintro e w5 ⟨⟨c, c2, rfl, ⟨r, bk, ck, v, rw', g1, r1, -, -⟩, r', bk', ck', v', rw2, g2, r2, -, -⟩, t5, b5⟩
    have G1 := hid g1
    have R1 := hid r1
    have G2 := hid g2
    have R2 := hid r2
    have T5 := hid t5
    have B5 := hid b5
    clear g1 r1 g2 r2 t5 b5
    go_wp2_with fail
    go_at_call 11
    refine (gsame_is b n r bk ck L b2 v rw' w5 G1.out R1.out T5.out).mono ?_
    rintro e w6 ⟨rfl, bl⟩
    have G6 := hid (G1.out.later bl)
    have K6 := hid (G2.out.later bl)
    have R6 := hid (R2.out.later bl)
    have T6 := hid (T5.out.later bl)
    have B6 := hid (B5.out.trans (bl.mono B5.out.size))
    clear bl G1 R1 G2 R2 T5 B5
    go_wp2_with fail
    go_at_call 11
    refine (gsame_is c n r' bk' ck' L c2 v' rw2 w6 K6.out R6.out T6.out).mono ?_
    rintro e w7 ⟨rfl, bl⟩
    have G7 := hid (G6.out.later bl)
    have K7 := hid (K6.out.later bl)
    have T7 := hid (T6.out.later bl)
    have B7 := hid (B6.out.trans (bl.mono B6.out.size))
    clear bl G6 K6 R6 T6 B6
    go_wp2_with fail
    go_at_call 19
    refine (edges_ed b n r bk ck L w7 G7.out T7.out).mono ?_
    rintro e w8 ⟨⟨a8, c8, rfl, hA⟩, bl⟩
    have A8 := hid hA
    have K8 := hid (K7.out.later bl)
    have T8 := hid (T7.out.later bl)
    have B8 := hid (B7.out.trans (bl.mono B7.out.size))
    clear bl hA G7 K7 T7 B7
    go_wp2_with fail
    go_at_call 19
    refine (edges_ed c n r' bk' ck' L w8 K8.out T8.out).mono ?_
    rintro e w9 ⟨⟨a9, c9, rfl, hA⟩, bl⟩
    have A9 := hid hA
    have C9 := hid (A8.out.later bl)
    have B9 := hid (B8.out.trans (bl.mono B8.out.size))
    clear bl hA K8 T8 B8 A8
    go_wp2_with fail
    go_at_call 18
    refine (equal_edges a8 a9 c8 c9 (ed L n) w9 C9.out A9.out hED).mono ?_
    rintro e w' ⟨rfl, q, rfl⟩
    go_wp2_with fail
    go_ret
    exact ⟨rfl, below_drewN B9.out q⟩
end Go.Proofs.YtpkfpfflnncleabDoor
