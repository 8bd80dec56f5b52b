/-
  The document's sets: List, Next, Same, Copy.
-/
import Derived.Test.YtpkfpfflnncleaaDoorR1
import Derived.Test.YtpkfpfflnncleaaDoorB12
namespace Go.Proofs.YtpkfpfflnncleaaDoor
set_option linter.unusedVariables false
set_option linter.unusedSimpArgs false
open Go.RowKit

theorem Ref.blt {w : World} {b n c : Nat} {f : Nat → Bool} (h : Ref w b n c f) : b < w.heap.size ∧ c < w.heap.size := by
  obtain ⟨cur, h1, h2, h3, h4⟩ := h.ex
  exact ⟨Go.Proofs.YtpkfpfflnncleaaDoor.blt h1, Go.Proofs.YtpkfpfflnncleaaDoor.blt h2⟩
set_option maxHeartbeats 2000000 in
theorem rlist_is (b n c : Nat) (f : Nat → Bool) (w : World) (h : Ref w b n c f) :
    Calls Tryd.prog 24 #[.pointer (some ⟨b, 0, none⟩)] w fun e w' => (∃ v, e = .returned v ∧ Ints w.heap.size w' v (lst f n)) ∧ Below w.heap.size w w' := by
  obtain ⟨i0, hi, hz'⟩ := Option.map_eq_some_iff.1 Tryd.info3
  simp only [Prod.mk.injEq] at hz'
  obtain ⟨hz0, hz1, hz2⟩ := hz'
  have HI := hid hi
  have HZ0 := hid hz0
  have HZ1 := hid hz1
  have HZ2 := hid hz2
  clear hi hz0 hz1 hz2
  obtain ⟨cap, hcap, c0, cj, fr⟩ := h.cells
  have CJ := hid cj
  have hbd := h.bound
  have hni : (n : Int) ≤ 4096 := by omega
  clear h cj fr
  go_enter Tryd.func24, Tryd.ntmps24
  go_wp2_with fail
  go_loopg [3, 4, 5, 11] n (fun g l _ _ i wr => ∃ k : Nat, k ≤ n ∧ n - k ≤ g ∧ i = .int .i64 k ∧ Aside (Ints w.heap.size wr l (lst f k)) ∧ Aside (Below w.heap.size w wr))
  case atStart => exact ⟨0, Nat.zero_le _, by omega, rfl, World.ownsRow_nil _ _ _ _, Below.refl _ _⟩
  case round =>
    obtain ⟨k, hk, hg, rfl, OX, BX⟩ := hrel
    by_cases hlt : k < n
    · have hlti : (k : Int) < n := by omega
      have HO := hid (lst_one f k)
      have c1 := CJ.out k hlt
      have ck : wr.cell? ⟨c, k, none⟩ = some (.bool (f k)) := (BX.out.cell (p := ⟨c, k, none⟩) (World.block_lt_of_cell? _ _ c1)).trans c1
      clear c1
      cases hfk : f k
      · rw [hfk] at ck
        go_wp2_with fail
        go_roundg (n - (k + 1))
        · exact ⟨k + 1, by omega, by omega, by go_num, by have h := HO.out; rw [hfk] at h; simp at h; rw [h]; exact OX.out, BX.out⟩
        · omega
      · rw [hfk] at ck
        have HLE := hid (lst_le f k)
        have hsz := hid BX.out.size
        go_wp2_with (at_builtin; refine wpList_append_lies _ rfl _ _ 42 rfl w.heap.size 3 i0 _ 1 8 Tryd.underlying42 HI.out HZ0.out HZ1.out HZ2.out rfl (by decide) u3 (lst f k).length (intsV (lst f k)) rfl ?hown ⟨wr.heap.size, 0, none⟩ 1 1 [.int .i64 k] rfl rfl ?hnews ?hone (by decide) ?h63 ?hby ?hbase (wr.heap.size + 1) ?hH ?_)
        case hown => exact World.ownsRow.alloc OX.out _
        case hnews => exact World.news_of_block (heap_alloc_new wr (.cells #[.int .i64 k] 3))
        case hone => intro u hu; simp at hu; subst hu; rfl
        case h63 => have := HLE.out; unfold maxLen; omega
        case hby => have := HLE.out; omega
        case hbase => have := hsz.out; simp; omega
        case hH => simp
        intro g cap' w4 hown4 hgrow hat hglt
        have B4 : Hid (Below w.heap.size w w4) := BX.out.trans (((below_box wr _).mono hsz.out).grown hgrow (by have := hsz.out; simp; omega) (fun x hx => (OX.out.lt x hx).1))
        have O4 : Hid (Ints w.heap.size w4 (.slice (some ⟨g, 0, none⟩) ((lst f k).length + 1) cap') (lst f (k + 1))) := by
          unfold Ints intsV at *
          have h := HO.out
          rw [hfk] at h
          simp at h
          rw [h, List.map_append, List.length_append]
          exact hown4
        clear hown4 hgrow hat hglt
        go_wp2_with fail
        go_roundg (n - (k + 1))
        · exact ⟨k + 1, by omega, by omega, by go_num, O4.out, B4.out⟩
        · omega
    · have hlti : ¬ (k : Int) < n := by omega
      have ek : n = k := by omega
      subst ek
      go_wp2_with fail
      go_ret
      exact ⟨⟨_, rfl, OX.out⟩, BX.out⟩

set_option maxHeartbeats 2000000 in
theorem rnext_is (b n c : Nat) (f : Nat → Bool) (i : Int) (w : World) (h : Ref w b n c f) :
    Calls Tryd.prog 21 #[.pointer (some ⟨b, 0, none⟩), .int .i64 i] w fun e w' => (∃ r t, e = .returned (.tuple #[.int .i64 r, .bool t]) ∧ NextIs f i.toNat r t) ∧ w = w' := by
  obtain ⟨cap, hcap, c0, cj, fr⟩ := h.cells
  have CJ := hid cj
  have hbd := h.bound
  have TOP := hid h.top
  have hni : (n : Int) ≤ 4096 := by omega
  clear h cj fr
  go_enter Tryd.func21, Tryd.ntmps21
  go_wp2_with fail
  go_loopg [6, 7, 13] n (fun g _ _ j wr => ∃ k : Nat, k ≤ n ∧ n - k ≤ g ∧ j = .int .i64 k ∧ Aside (∀ m, i.toNat ≤ m → m < k → f m = false) ∧ w = wr)
  case atStart => exact ⟨0, Nat.zero_le _, by omega, rfl, fun m _ hm => by omega, rfl⟩
  case round =>
    obtain ⟨k, hk, hg, rfl, AX, rfl⟩ := hrel
    by_cases hlt : k < n
    · have hlti : (k : Int) < n := by omega
      have ck := CJ.out k hlt
      cases hfk : f k
      · rw [hfk] at ck
        go_wp2_with fail
        go_roundg (n - (k + 1))
        · refine ⟨k + 1, by omega, by omega, by go_num, fun m h1 h2 => ?_, rfl⟩
          by_cases e : m = k
          · subst e; exact hfk
          · exact AX.out m h1 (by omega)
        · omega
      · rw [hfk] at ck
        by_cases hik : i ≤ (k : Int)
        · go_wp2_with fail
          go_ret2
          exact ⟨⟨_, true, rfl, .inl ⟨rfl, k, rfl, by omega, hfk, AX.out⟩⟩, rfl⟩
        · go_wp2_with fail
          go_roundg (n - (k + 1))
          · refine ⟨k + 1, by omega, by omega, by go_num, fun m h1 h2 => ?_, rfl⟩
            exact AX.out m h1 (by omega)
          · omega
    · have hlti : ¬ (k : Int) < n := by omega
      go_wp2_with fail
      have key : NextIs f i.toNat 0 false := .inr ⟨rfl, rfl, fun m hm => by
        by_cases e : m < k
        · exact AX.out m hm e
        · exact TOP.out m (by omega)⟩
      have KEY := hid key
      clear key
      go_ret2
      first | exact ⟨⟨0, false, rfl, KEY.out⟩, rfl⟩ | exact ⟨⟨0, .inl ⟨rfl, KEY.out⟩⟩, rfl⟩
theorem NextIs.unique {f : Nat → Bool} {i : Nat} {r r' : Int} {t t' : Bool} (h : NextIs f i r t) (h' : NextIs f i r' t') : r = r' ∧ t = t' := by
  rcases h with ⟨rfl, j, rfl, h1, h2, h3⟩ | ⟨rfl, rfl, h3⟩
  · rcases h' with ⟨rfl, k, rfl, k1, k2, k3⟩ | ⟨rfl, rfl, k3⟩
    · have : j = k := by
        rcases Nat.lt_trichotomy j k with h | h | h
        · have := k3 j h1 h
          rw [h2] at this
          cases this
        · exact h
        · have := h3 k k1 h
          rw [k2] at this
          cases this
      exact ⟨by rw [this], rfl⟩
    · have := k3 j h1
      rw [h2] at this
      cases this
  · rcases h' with ⟨rfl, k, rfl, k1, k2, k3⟩ | ⟨rfl, rfl, k3⟩
    · have := h3 k k1
      rw [k2] at this
      cases this
    · exact ⟨rfl, rfl⟩

set_option maxHeartbeats 2000000 in
theorem rsame_is (b n c : Nat) (f : Nat → Bool) (b2 n2 c2 : Nat) (g : Nat → Bool) (w : World) (h : Ref w b n c f) (h' : Ref w b2 n2 c2 g) :
    Calls Tryd.prog 30 #[.pointer (some ⟨b, 0, none⟩), .pointer (some ⟨b2, 0, none⟩)] w fun e w' => (∃ t : Bool, e = .returned (.bool t) ∧ (t = true ↔ n = n2 ∧ ∀ i, f i = g i)) ∧ ∃ q, w' = w.drewN q := by
  obtain ⟨cap, hcap, c0, cj, fr⟩ := h.cells
  obtain ⟨cap2, hcap2, d0, dj, fr2⟩ := h'.cells
  have CJ := hid cj
  have DJ := hid dj
  have hbd := h.bound
  have hni : (n : Int) ≤ 4096 := by omega
  have TOP := hid h.top
  have TOP2 := hid h'.top
  clear h h' cj dj fr fr2
  by_cases hn : n = n2
  · subst hn
    have hnn : ((n : Int) == (n : Int)) = true := by simp
    go_enter Tryd.func30, Tryd.ntmps30
    go_wp2_with fail
    go_quiet (fail)
    go_wp2_with fail
    go_loopg [5, 26] n (fun gg _ i wr => ∃ k : Nat, k ≤ n ∧ n - k ≤ gg ∧ i = .int .i64 k ∧ Aside (∀ m, m < k → f m = g m) ∧ Aside (∃ q, wr = w.drewN q))
    case atStart => exact ⟨0, Nat.zero_le _, by omega, rfl, fun m hm => by omega, _, rfl⟩
    case round =>
      obtain ⟨k, hk, hg, rfl, AX, QX⟩ := hrel
      obtain ⟨q, rfl⟩ := QX.out
      by_cases hlt : k < n
      · have hlti : (k : Int) < n := by omega
        have ck := CJ.out k hlt
        have dk := DJ.out k hlt
        by_cases he : f k = g k
        · have HE := hid he
          rw [← he] at dk
          clear he
          obtain ⟨x, hx⟩ : ∃ x, f k = x := ⟨_, rfl⟩
          rw [hx] at ck dk
          clear hx
          have hxx : (x == x) = true := by simp
          go_wp2_with fail
          go_quiet (fail)
          go_wp2_with fail
          go_roundg (n - (k + 1))
          · refine ⟨k + 1, by omega, by omega, by go_num, fun m hm => ?_, _, rfl⟩
            by_cases e : m = k
            · subst e; exact HE.out
            · exact AX.out m (by omega)
          · omega
        · have HE := hid he
          have hne : (f k == g k) = false := by simp; exact he
          clear he
          obtain ⟨x, hx⟩ : ∃ x, f k = x := ⟨_, rfl⟩
          obtain ⟨y, hy⟩ : ∃ y, g k = y := ⟨_, rfl⟩
          rw [hx] at ck hne
          rw [hy] at dk hne
          clear hx hy
          go_wp2_with fail
          go_quiet (fail)
          go_wp2_with fail
          go_ret
          first | exact ⟨⟨false, rfl, by simp; exact ⟨k, HE.out⟩⟩, q + nq, by simp [World.drewN, Nat.add_assoc]⟩ | exact ⟨.inl ⟨rfl, by simp; exact ⟨k, HE.out⟩⟩, q + nq, by simp [World.drewN, Nat.add_assoc]⟩
      · have hlti : ¬ (k : Int) < n := by omega
        go_wp2_with fail
        have key : ∀ i, f i = g i := fun i => by
          by_cases e : i < k
          · exact AX.out i e
          · rw [TOP.out i (by omega), TOP2.out i (by omega)]
        have KEY := hid key
        clear key
        go_ret
        first | exact ⟨⟨true, rfl, by simp; exact KEY.out⟩, _, rfl⟩ | exact ⟨.inr ⟨rfl, by first | exact KEY.out | (simp; exact KEY.out)⟩, _, rfl⟩
  · have hnn : ((n2 : Int) == (n : Int)) = false := by simp; omega
    have HN := hid hn
    clear hn
    go_enter Tryd.func30, Tryd.ntmps30
    go_wp2_with fail
    go_quiet (fail)
    go_wp2_with fail
    go_ret
    first | exact ⟨⟨false, rfl, by simp; intro e; exact absurd e HN.out⟩, _, rfl⟩ | exact ⟨.inl ⟨rfl, by simp; intro e; exact absurd e HN.out⟩, _, rfl⟩

/-- A row's cells. -/
def boolsV (f : Nat → Bool) (n : Nat) : List Value := (List.range n).map fun j => Value.bool (f j)
set_option maxHeartbeats 2000000 in
theorem rcopy_is (b n c : Nat) (f : Nat → Bool) (w : World) (h : Ref w b n c f) :
    Calls Tryd.prog 19 #[.pointer (some ⟨b, 0, none⟩)] w fun e w' => (∃ b' c', e = .returned (.pointer (some ⟨b', 0, none⟩)) ∧ Ref w' b' n c' f ∧ w.heap.size ≤ b' ∧ w.heap.size ≤ c') ∧ Below w.heap.size w w' := by
  obtain ⟨i0, hi, hz'⟩ := Option.map_eq_some_iff.1 Tryd.info4
  simp only [Prod.mk.injEq] at hz'
  obtain ⟨hz0, hz1, hz2⟩ := hz'
  have HI := hid hi
  have HZ0 := hid hz0
  have HZ1 := hid hz1
  have HZ2 := hid hz2
  clear hi hz0 hz1 hz2
  obtain ⟨cap, hcap, c0, cj, fr⟩ := h.cells
  have CJ := hid cj
  have hbd := h.bound
  have TOP := hid h.top
  have hni : (n : Int) ≤ 4096 := by omega
  clear h cj fr
  have hbl : b < w.heap.size := World.block_lt_of_cell? _ _ c0
  have c0' : ∀ o, (w.alloc o).cell? ⟨b, 0, none⟩ = some (.slice (some ⟨c, 0, none⟩) n cap) := fun o => Lib.cell?_alloc_some _ c0
  go_enter Tryd.func19, Tryd.ntmps19
  go_wp2_with (at_builtin; refine wpList_append_own _ rfl _ _ 45 rfl w.heap.size 4 i0 (.bool false) 1 1 Tryd.underlying45 HI.out HZ0.out HZ1.out HZ2.out rfl (by decide) _ _ _ rfl (World.ownsRow_made w #[] 0 (Nat.le_refl _) (Nat.zero_le _) rfl) ⟨c, 0, none⟩ n cap (boolsV f n) rfl ?qc1 ?qc2 ?qc3 ?qc4 ?qc5 ?qc6 ?_)
  case qc1 => simp [boolsV]
  case qc2 =>
    intro j u hj
    have hjn : j < n := by have := (List.getElem?_eq_some_iff.1 hj).1; simpa [boolsV] using this
    have hadd : (⟨c, 0, none⟩ : Addr).add j = ⟨c, j, none⟩ := by unfold Addr.add; split <;> simp_all
    rw [hadd]
    refine Lib.cell?_alloc_some _ ?_
    rw [CJ.out j hjn]
    unfold boolsV at hj
    simp [hjn] at hj
    rw [hj]
  case qc3 => intro u hu; unfold boolsV at hu; obtain ⟨x, _, rfl⟩ := List.mem_map.1 hu; rfl
  case qc4 => unfold maxLen; omega
  case qc5 => omega
  case qc6 => simp
  intro v' w1 hown hgrow hnil
  have BW : Below w.heap.size w w1 := ((Below.refl _ w).alloc (Nat.le_refl _) _).grown hgrow (by simp) (by intro k hk; simp [Value.ownBlock] at hk; omega)
  obtain ⟨g, cap', cur, rfl, hbg, hg, hnc, hmx, hsz, htk⟩ : ∃ g cap' cur, v' = .slice (some ⟨g, 0, none⟩) n cap' ∧ w.heap.size ≤ g ∧ w1.heap[g]? = some (.cells cur 4 (0, 0)) ∧ n ≤ cap' ∧ cap' ≤ maxLen ∧ cur.size = cap' ∧ cur.toList.take n = boolsV f n := by
    rcases hown.2 with ⟨hv, _⟩ | ⟨g, cap', cur, hv, h1, h2, h3, h4, h5, h6⟩
    · exact (hnil hv).elim
    · exact ⟨g, cap', cur, by simpa using hv, h1, h2, by simpa using h3, h4, by simpa using h5, by simpa using h6⟩
  have HB := hid BW
  have HG := hid hg
  have HTK := hid htk
  have HSZ := hid hsz
  have hgl := hid (blt hg)
  clear hown hgrow hnil BW hg htk hsz
  go_wp2
  go_ret
  refine ⟨⟨w1.heap.size, g, rfl, ⟨⟨cur, ?_, ?_, by rw [HSZ.out]; exact hnc, fun j hj => ?_⟩, TOP.out, hbd⟩, HB.out.size, hbg⟩, HB.out.trans ((below_box w1 _).mono HB.out.size)⟩
  · rw [HSZ.out]
    exact heap_alloc_new w1 _
  · rw [Lib.alloc_old _ _ g hgl.out]
    exact HG.out
  · have h1 : (boolsV f n)[j]? = some (.bool (f j)) := by unfold boolsV; simp [hj]
    rw [← HTK.out, List.getElem?_take, if_pos hj] at h1
    simpa using h1
end Go.Proofs.YtpkfpfflnncleaaDoor
