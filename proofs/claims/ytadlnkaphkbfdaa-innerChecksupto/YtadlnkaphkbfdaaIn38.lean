/-
  External: the places of the reads that come first.
-/
import Derived.Test.YtadlnkaphkbfdaaIn33
import Derived.Test.YtadlnkaphkbfdaaIn37
namespace Go.Proofs.Ytadlnkaphkbfdaa
set_option linter.unusedVariables false
set_option linter.unusedSimpArgs false
open Go.RowKit Go.Lib Go.Maps Go.Shelf Go.Sort

set_option maxHeartbeats 4000000 in
set_option maxRecDepth 100000 in
theorem placesE_is (v : Value) (l : List MOp) (w : World) (sel : Int × Int → Int) (h : OpsIn Any w v l) (hk : ∀ i, OpKey (l.getD i default))
    (hsel : ∀ (u : Int × Int) (W : World), Calls Try.prog 40 #[useV u] W fun e w' => e = .returned (.int .i64 (sel u)) ∧ Below W.heap.size W w')
    (hinj : ∀ t s u t' s' u', usAt l l.length t s = some u → usAt l l.length t' s' = some u' → sel u = sel u' → 0 ≤ sel u → t = t' ∧ s = s') :
    Calls Try.prog 39 #[v, .func (.func 40) #[] #[]] w fun e w' => ∃ (v' : Value) (p : List Int), e = .returned v' ∧ IR w.heap.size w' v' (p.mergeSort fun x y => decide (x ≤ y)) ∧ p.Nodup ∧ (∀ x, x ∈ p ↔ 0 ≤ x ∧ ∃ t s u, usAt l l.length t s = some u ∧ sel u = x) ∧ p.length ≤ l.length ∧ Below w.heap.size w w' := by
  have hlen : l.length * 64 ≤ 140737488355328 := by obtain ⟨_, _, _, ⟨h1, _⟩, _⟩ := ops_at h; exact h1
  have US := hid (uses_is v l w h hk)
  have SEL := hid hsel
  have INJ := hid hinj
  obtain ⟨va, vn, vc, hvv⟩ : ∃ a n c, v = .slice a n c := by obtain ⟨a, c, h, _⟩ := ops_at h; exact ⟨a, _, c, h⟩
  subst hvv
  clear h hk hsel hinj
  obtain ⟨i0, hi0, hz'⟩ := Option.map_eq_some_iff.1 Try.info3p
  simp only [Prod.mk.injEq] at hz'
  obtain ⟨hz0, hz1, hz2⟩ := hz'
  have HI0 := hid hi0
  have HZ0 := hid hz0
  have HZ1 := hid hz1
  have HZ2 := hid hz2
  clear hi0 hz0 hz1 hz2
  go_enter Try.func39, Try.ntmps39
  go_wp2_with fail
  go_at_call 69
  refine US.out.mono ?_
  rintro e w1 ⟨rfl, ⟨f, hm, hf, hkf⟩, b1⟩
  have B1 := hid b1
  have HF := hid hf
  have KF := hid hkf
  have HM := hid hm
  obtain ⟨U, hUe⟩ : ∃ U, usAt l l.length = U := ⟨_, rfl⟩
  rw [hUe] at HF INJ
  have HUE := hid hUe
  clear hUe b1 hf hkf US
  go_wp2_with (at_range; refine wpList_rangeG _ rfl _ 120 63 69 rfl keys63 Try.underlying120 w.heap.size l.length f rfl hm ?_; intro w0 cnt0 hrg0 hcn0 hg0 hs0; have RG0 := hid hrg0; have G0 := hid hg0; have CN0 := hid hcn0; have HS0 := hid hs0; clear hrg0 hg0 hcn0 hs0)
  go_frame
  go_loopg [5, 7, 8] cnt0 (fun gk pv _ _ wr => ∃ (left : Value → Prop) (cnt : Nat) (p : List Int), cnt ≤ gk ∧ Aside (RangeG wr Try.prog 63 w.heap.size w1.heap.size l.length f left cnt) ∧ Aside (IR w0.heap.size wr pv p) ∧ Aside (p.length + cnt ≤ l.length) ∧ Aside (∀ x, x ∈ p ↔ 0 ≤ x ∧ ∃ t s u, U t s = some u ∧ sel u = x ∧ ¬ left (thV t s)) ∧ Aside p.Nodup ∧ Aside (Below w.heap.size w wr) ∧ Aside (w0.heap.size ≤ wr.heap.size))
  case atStart =>
    refine ⟨fun key => (f key).isSome = true, cnt0, [], Nat.le_refl _, RG0.out, (show Aside _ from World.ownsRow_nil _ _ _ _), (show Aside _ from by have := CN0.out; show 0 + cnt0 ≤ l.length; omega), (show Aside _ from fun x => ?_), (show Aside _ from List.nodup_nil), (show Aside _ from B1.out.trans ⟨G0.out.os, G0.out.tape, G0.out.output, G0.out.size, fun b hb => G0.out.block b (by have := B1.out.size; omega) (by simp)⟩), (show Aside _ from Nat.le_refl _)⟩
    constructor
    · intro hx; cases hx
    · rintro ⟨_, t, s, u, hu, _, hn⟩
      exact absurd (by show (f (thV t s)).isSome = true; rw [HF.out t s, hu]; rfl) hn
  case round =>
    obtain ⟨left, cnt, p, hgk, RG, IP, PC, MP, ND, BWR, SZ⟩ := hrel
    have hrg := RG.out
    have hs0 := HS0.out
    have hsz := SZ.out
    have hb1 := B1.out.size
    have hmlt := HM.out.lt
    go_wp2_with (at_next; refine wpList_nextG _ rfl _ rfl 63 keys63 w.heap.size w1.heap.size l.length f left cnt rfl hrg ?_ ?_)
    · intro hl0
      have MF : Hid (∀ x, x ∈ p ↔ 0 ≤ x ∧ ∃ t s u, U t s = some u ∧ sel u = x) := fun x => by
        rw [MP.out x]
        constructor
        · rintro ⟨h1, t, s, u, h2, h3, _⟩; exact ⟨h1, t, s, u, h2, h3⟩
        · rintro ⟨h1, t, s, u, h2, h3⟩
          refine ⟨h1, t, s, u, h2, h3, ?_⟩
          obtain ⟨_, _, _, kl, hkl⟩ := KF.out (thV t s) (useV u) (by rw [HF.out t s, h2]; rfl)
          exact hl0 _ kl hkl
      clear hl0 hrg
      rcases IP.out.2 with ⟨hv, hn⟩ | ⟨g, vc2, cur, hv, hB, hh, r1, r2, r3, r4⟩
      · have hp : p = [] := List.length_eq_zero_iff.1 hn
        subst hv
        subst hp
        go_wp2_with fail
        go_at_call 70
        refine (sort_none none 0 _).mono ?_
        rintro e w9 ⟨rfl, rfl⟩
        go_wp2_with fail
        go_ret
        exact ⟨_, [], rfl, (by rw [List.mergeSort_nil]; exact World.ownsRow_nil _ _ _ _), List.nodup_nil, (by rw [HUE.out]; exact MF.out), Nat.zero_le _, BWR.out⟩
      · subst hv
        have hH : Holds (Value.int .i64) wr g 0 p.toArray := holds_of_block_i hh (by
          rw [Nat.mul_one] at r4
          rw [r4])
        have SC := hid (sort_call g vc2 p wr hH (blt hh) (by have := PC.out; omega))
        have HH := hid hh
        have HB := hid hB
        have R1 := hid r1
        have R2 := hid r2
        have R3 := hid r3
        clear hh hH r1 r2 r3 r4 hB
        go_wp2_with fail
        go_at_call 70
        refine SC.out.mono ?_
        rintro e w9 ⟨rfl, n9, os9, rfl⟩
        go_wp2_with fail
        go_ret
        refine ⟨_, p, rfl, ?_, ND.out, (by rw [HUE.out]; exact MF.out), (by have := PC.out; omega), BWR.out.grown (grownBy_sorted_i _) BWR.out.size (fun j hj => by cases hj; have := HB.out; omega)⟩
        have q := ownsRow_sorted_i (w := wr) (n := n9) (os := os9) (ss := p) (ts := p.mergeSort fun x y => decide (x ≤ y)) (base := w.heap.size) (by rw [List.length_mergeSort]) (by have := HB.out; omega) HH.out R1.out R2.out R3.out
        unfold IR
        rw [List.length_mergeSort]
        exact q
    · intro key uv kl w2 cnt2 hkl hlk hfk hrg2 hlt2 hgr2 hsz2 hen2
      obtain ⟨t, s, hkey, _⟩ := KF.out key uv hfk
      subst hkey
      obtain ⟨u, hU, huv⟩ : ∃ u, U t s = some u ∧ uv = useV u := by
        rw [HF.out t s] at hfk
        cases hU : U t s with
        | none => rw [hU] at hfk; cases hfk
        | some u => rw [hU] at hfk; exact ⟨u, rfl, by injection hfk with e; exact e.symm⟩
      subst huv
      obtain ⟨ux, uf⟩ := u
      have HU := hid hU
      have RG2 := hid hrg2
      have GR2 := hid hgr2
      have LK := hid hlk
      have IP2 : Hid (IR w0.heap.size w2 _ p) := IP.out.same (fun g hg => hgr2.block g (IP.out.block hg).2 (fun e => by injection e with e; have := (IP.out.block hg).1; omega))
      have BW2 : Hid (Below w.heap.size w w2) := BWR.out.trans ⟨hgr2.os, hgr2.tape, hgr2.output, hgr2.size, fun b hb => hgr2.block b (by omega) (fun e => by injection e with e; omega)⟩
      unfold useV at hen2
      simp only at hen2
      have S2 : w2.heap.size = wr.heap.size := hsz2
      clear hU hrg2 hgr2 hlk hfk hkl hrg hsz2
      go_wp2_with fail
      refine (SEL.out (ux, uf) _).mono ?_
      rintro e w3 ⟨rfl, b3⟩
      have BB : Hid (Below w2.heap.size w2 w3) := (below_box w2 _).trans (b3.mono (by simp))
      clear b3
      have IP3 : Hid (IR w0.heap.size w3 _ p) := IP2.out.same (fun g hg => BB.out.block g (IP2.out.block hg).2)
      have RG3 : Hid (RangeG w3 Try.prog 63 w.heap.size w1.heap.size l.length f (fun z => left z ∧ z ≠ thV t s) cnt2) := RG2.out.same (BB.out.block _ (by omega)) (BB.out.block _ (by omega))
      have BW3 : Hid (Below w.heap.size w w3) := BW2.out.trans (BB.out.mono BW2.out.size)
      have S3 : w2.heap.size ≤ w3.heap.size := BB.out.size
      have NEW : Hid (0 ≤ sel (ux, uf) → sel (ux, uf) ∉ p) := fun h0 hx => by
        obtain ⟨_, t', s', u', h2, h3, h4⟩ := (MP.out _).1 hx
        obtain ⟨rfl, rfl⟩ := INJ.out t s (ux, uf) t' s' u' HU.out h2 h3.symm h0
        exact h4 LK.out
      have MEM : Hid (∀ x, (0 ≤ x ∧ ∃ t' s' u', U t' s' = some u' ∧ sel u' = x ∧ ¬ (left (thV t' s') ∧ thV t' s' ≠ thV t s)) ↔ (x ∈ p ∨ (0 ≤ x ∧ x = sel (ux, uf)))) := fun x => by
        rw [MP.out x]
        constructor
        · rintro ⟨h0, t', s', u', h1, h2, h3⟩
          by_cases e : thV t' s' = thV t s
          · obtain ⟨rfl, rfl⟩ := thV_inj e
            rw [HU.out] at h1
            cases h1
            exact .inr ⟨h0, h2.symm⟩
          · exact .inl ⟨h0, t', s', u', h1, h2, fun c => h3 ⟨c, e⟩⟩
        · rintro (⟨h0, t', s', u', h1, h2, h3⟩ | ⟨h0, h1⟩)
          · exact ⟨h0, t', s', u', h1, h2, fun c => h3 c.1⟩
          · exact ⟨h0, t, s, (ux, uf), HU.out, h1.symm, fun c => c.2 rfl⟩
      by_cases h0 : 0 ≤ sel (ux, uf)
      · have NW := NEW.out h0
        have H0 := hid h0
        have NWH := hid NW
        clear NW NEW
        generalize sel (ux, uf) = sx at *
        go_wp2_with (at_builtin; refine wpList_append_lies _ rfl _ _ 26 rfl w0.heap.size 3 i0 _ 1 8 Try.underlying26 HI0.out HZ0.out HZ1.out HZ2.out rfl (by decide) _ p.length (p.map (Value.int .i64)) rfl (IP3.out.same (fun g hg => (below_box w3 _).block g (IP3.out.block hg).2)) ⟨w3.heap.size, 0, none⟩ 1 1 [.int .i64 sx] rfl rfl (World.news_of_block (cs := #[.int .i64 sx]) (t := 3) (fr := (0, 0)) (heap_alloc_new w3 _)) (by simp [Value.oneCell']) (by decide) (by have := PC.out; unfold maxLen; omega) (by have := PC.out; omega) (by simp; omega) _ rfl ?_; intro g5 cap5 w5 hown hgrow hat hglt; have O5 := hid hown; have G5 := hid hgrow; clear hown hgrow hat hglt)
        have KP : Hid (∀ b, b < w0.heap.size → w5.heap[b]? = w3.heap[b]?) := fun b hb => (G5.out.block b (by simp; omega) (fun e => by have h9 := (IP3.out.block e.symm).1; omega)).trans ((below_box w3 _).block b (by omega))
        have S5 : w3.heap.size + 1 ≤ w5.heap.size := by have := G5.out.size; simpa using this
        go_roundg cnt2
        case measure => omega
        case rel =>
          refine ⟨_, cnt2, p ++ [sx], Nat.le_refl _, RG3.out.same (KP.out _ (by omega)) (KP.out _ (by omega)), (show Aside _ from by unfold IR; rw [List.length_append, List.map_append]; exact O5.out), (show Aside _ from by have := PC.out; show (p ++ [sx]).length + cnt2 ≤ l.length; simp; omega), (show Aside _ from fun x => ?_), (show Aside _ from ?_), (show Aside _ from BW3.out.trans ⟨G5.out.os, G5.out.tape, G5.out.output, by omega, fun b hb => KP.out b (by omega)⟩), (show Aside _ from by show w0.heap.size ≤ w5.heap.size; omega)⟩
          · rw [MEM.out x]
            simp only [List.mem_append, List.mem_singleton]
            constructor
            · rintro (h | h)
              · exact .inl h
              · exact .inr ⟨h ▸ H0.out, h⟩
            · rintro (h | h)
              · exact .inl h
              · exact .inr h.2
          · show (p ++ [sx]).Nodup
            rw [List.nodup_append]
            refine ⟨ND.out, by simp, ?_⟩
            intro a ha b hb
            simp only [List.mem_singleton] at hb
            subst hb
            intro e
            subst e
            exact NWH.out ha
      · have NN : Hid (sel (ux, uf) < 0) := by show sel (ux, uf) < 0; omega
        go_wp2_with fail
        go_roundg cnt2
        case measure => omega
        case rel => exact ⟨_, cnt2, p, Nat.le_refl _, RG3.out, IP3.out, (show Aside _ from by have := PC.out; show p.length + cnt2 ≤ l.length; omega), (show Aside _ from fun x => by rw [MEM.out x]; exact ⟨fun h => .inl h, fun h => h.elim id (fun c => by have h1 := NN.out; have h2 := c.2; have h3 := c.1; omega)⟩), ND.out, BW3.out, (show Aside _ from by show w0.heap.size ≤ w3.heap.size; omega)⟩

theorem pickE_is (u : Int × Int) (W : World) : Calls Try.prog 40 #[useV u] W fun e w' => e = .returned (.int .i64 u.1) ∧ Below W.heap.size W w' := by
  unfold useV
  obtain ⟨a, b⟩ := u
  simp only
  go_enter Try.func40, Try.ntmps40
  go_wp2_with fail
  go_ret
  exact ⟨rfl, below_box W _⟩
set_option maxHeartbeats 2000000 in
theorem external_is (v : Value) (l : List MOp) (w : World) (h : OpsIn Any w v l) (hk : ∀ i, OpKey (l.getD i default)) :
    Calls Try.prog 13 #[v] w fun e w' => ∃ v', e = .returned v' ∧ IR w.heap.size w' v' (outsL l) ∧ (outsL l).length ≤ l.length ∧ Below w.heap.size w w' := by
  have hP := placesE_is v l w (fun u => u.1) h hk pickE_is (fun t s u t' s' u' h1 h2 h3 h4 => by
    obtain ⟨i, a1, a2, a3⟩ := use_out h1 h4
    obtain ⟨j, b1, b2, b3⟩ := use_out h2 (by omega)
    have e : i = j := by omega
    subst e
    exact ⟨a3.1.symm.trans b3.1, a3.2.symm.trans b3.2⟩)
  have HP := hid hP
  obtain ⟨va, vn, vc, hvv⟩ : ∃ a n c, v = .slice a n c := by obtain ⟨a, c, h, _⟩ := ops_at h; exact ⟨a, _, c, h⟩
  subst hvv
  clear hP h hk
  go_enter Try.func13, Try.ntmps13
  go_wp2_with fail
  go_at_call 39
  refine HP.out.mono ?_
  rintro e w1 ⟨v', p, rfl, hi, hn, hm, hl, b1⟩
  have e2 := sorted_of (P := outB l) (n := l.length) hn (fun x => by
    rw [hm x]
    constructor
    · rintro ⟨h0, t, s, u, h1, rfl⟩
      obtain ⟨i, a1, a2, a3⟩ := use_out h1 h0
      exact ⟨i, a1, a2.1, outB_iff.2 a2⟩
    · rintro ⟨i, rfl, hf, hb⟩
      obtain ⟨f, hx⟩ := us_of_out (outB_iff.1 hb)
      exact ⟨by omega, _, _, _, hx, rfl⟩)
  replace e2 : (p.mergeSort fun x y => decide (x ≤ y)) = outsL l := e2
  rw [e2] at hi
  have hl2 : (outsL l).length ≤ l.length := by rw [← e2, List.length_mergeSort]; exact hl
  have HI : Hid (IR w.heap.size w1 v' (outsL l)) := hi
  have B1 := hid b1
  have HL := hid hl2
  obtain ⟨pa, pc, hpv⟩ := own_slice hi
  subst hpv
  clear hi b1 hn hm hl e2 hl2
  go_wp2_with fail
  go_ret
  exact ⟨_, rfl, HI.out, HL.out, B1.out⟩
end Go.Proofs.Ytadlnkaphkbfdaa
