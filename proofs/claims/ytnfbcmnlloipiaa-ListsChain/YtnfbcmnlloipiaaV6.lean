/-
  The walk of note.
-/
import Derived.Test.YtnfbcmnlloipiaaV5
namespace Go.Proofs.Ytnfbcmnlloipiaa
set_option linter.unusedVariables false
set_option linter.unusedSimpArgs false
open Go.RowKit Go.Lib Go.Maps
open Tx (MTxn info_parts)

theorem Try.infoWrite : (Try.prog.info? 54).map (fun i => (i.zero, i.size, i.bytes)) = some (some (.agg #[.int .i64 0, .int .i64 0]), 2, 16) := by kernel_rfl
/-- What note leaves. -/
def NPost (B : Nat) (w : World) (tb kb wb lb : Nat) (tv kv : Value) (F : Nat → Prop) (n : Nat) (N : List MN) (x : MN) (e : Ending) (w' : World) : Prop :=
  e = .returned (.tuple #[]) ∧ (∃ u', (u' = true ↔ uniqN (N ++ [x])) ∧ Tb B w' tb kb wb lb tv kv (wide F w w') (n + 3) u' (N ++ [x]) (N ++ [x]) (N ++ [x])) ∧ Gro F w w'
theorem npost_of {B : Nat} {w w' : World} {tb kb wb lb : Nat} {tv kv : Value} {F F' : Nat → Prop} {n m : Nat} {N : List MN} {x : MN} {u' : Bool} (hu : u' = true ↔ uniqN (N ++ [x])) (h : Tb B w' tb kb wb lb tv kv F' m u' (N ++ [x]) (N ++ [x]) (N ++ [x])) (hm : m ≤ n + 3) (hF : ∀ b, F' b → wide F w w' b) (hg : Gro F w w') (hB : B ≤ w.heap.size) (hf : ∀ b, F b → B ≤ b ∧ b < w.heap.size) :
    NPost B w tb kb wb lb tv kv F n N x (.returned (.tuple #[])) w' :=
  ⟨rfl, ⟨u', hu, h.wider hF (fun b hb => by
    rcases hb with hb | hb
    · exact ⟨(hf b hb).1, Nat.lt_of_lt_of_le (hf b hb).2 hg.size⟩
    · exact ⟨by omega, hb.2⟩) hm⟩, hg⟩
set_option maxHeartbeats 8000000 in
set_option maxRecDepth 100000 in
theorem note_is (B : Nat) (w : World) (tb kb wb lb : Nat) (tv kv : Value) (F : Nat → Prop) (n : Nat) (u : Bool) (N : List MN) (x : MN) (a : Option Addr) (c : Nat) (h : Tb B w tb kb wb lb tv kv F n u N N N) (hu : u = true ↔ uniqN N) (hs : x.2.2.key.size ≤ maxLen) (hv : (Lit.int .i64 x.2.2.value).wf = true) (ht : x.1 ≤ 1000) (hN : N.length ≤ 100000) (hn : n + 3 < maxLen) (hB : B ≤ w.heap.size) :
    Calls Try.prog 31 #[.pointer (some ⟨tb, 0, none⟩), .agg #[.int .i64 (x.1 : Int), .int .i64 (x.2.1 : Int)], opV x.2.2 a c] w fun e w' => NPost B w tb kb wb lb tv kv F n N x e w' := by
  obtain ⟨i0, hi0, hz0, hz1, hz2⟩ := info_parts Try.infoWrite
  have HI0 := hid hi0
  have HZ0 := hid hz0
  have HZ1 := hid hz1
  have HZ2 := hid hz2
  have HFL := hid h.flt
  have HU := hid hu
  have HB := hid hB
  have HS := hid hs
  have HV := hid hv
  have htl := (h.flt tb h.ft).2
  have hN2 := writers_len N x.2.2.key x.2.2.value
  have T0 := hid h
  clear hi0 hz0 hz1 hz2 h hu hB hs hv
  obtain ⟨xt, xi, xk, xs, xv, xl, xh, xn⟩ := x
  simp only [MOp.kind, MOp.key, MOp.value, MOp.list, MOp.has, MOp.nl, opV] at *
  obtain ⟨W, hW⟩ : ∃ W, (w.alloc (.cells #[.int .i64 (xt : Int), .int .i64 (xi : Int)] 54)).alloc (.cells #[.int .i64 xk, .string xs, .int .i64 xv, .slice a xl.length c, .bool xh, .bool xn] 49) = W := ⟨_, rfl⟩
  have B1 : Hid (Below w.heap.size w W) := by rw [← hW]; exact ((Below.refl _ w).alloc (Nat.le_refl _) _).alloc (by simp) _
  have T1 : Hid (Tb B W tb kb wb lb tv kv F n u N N N) := T0.out.later B1.out
  obtain ⟨pb, hpb⟩ : ∃ pb, w.heap.size = pb := ⟨_, rfl⟩
  have hWs : W.heap.size = pb + 2 := by rw [← hW, ← hpb]; simp
  have p0 : W.cell? ⟨pb, 0, none⟩ = some (.int .i64 (xt : Int)) := by rw [← hW, ← hpb]; simp
  have p1 : W.cell? ⟨pb, 1, none⟩ = some (.int .i64 (xi : Int)) := by rw [← hW, ← hpb]; simp
  have o0 : W.cell? ⟨pb + 1, 0, none⟩ = some (.int .i64 xk) := by rw [← hW, ← hpb]; simp
  have o1 : W.cell? ⟨pb + 1, 1, none⟩ = some (.string xs) := by rw [← hW, ← hpb]; simp
  have o2 : W.cell? ⟨pb + 1, 2, none⟩ = some (.int .i64 xv) := by rw [← hW, ← hpb]; simp
  have HW := hid hW
  have HPB := hid hpb
  have HWS := hid hWs
  have hTL : tb < pb := by omega
  clear hW T0 hpb hWs htl
  go_enter Try.func31, Try.ntmps31
  go_upto_region 1 with fail
  rw [show (w.alloc (.cells #[.int .i64 (xt : Int), .int .i64 (xi : Int)] 54)).alloc (.cells #[.int .i64 xk, .string xs, .int .i64 xv, .slice a xl.length c, .bool xh, .bool xn] 49) = W from HW.out]
  rw [show w.heap.size = pb from HPB.out]
  have TH := hid (fun W => thing_is xk W)
  have WR := hid (fun W => writes_is xk W)
  by_cases h0 : thing xk = 0
  · have hw : Hid (isW xk = false) := by
      show isW xk = false
      cases hc : isW xk with
      | false => rfl
      | true => exact absurd h0 (isW_thing hc)
    have FIN : Hid (NPost B w tb kb wb lb tv kv F n N (xt, xi, xk, xs, xv, xl, xh, xn) (.returned (.tuple #[])) W) := npost_of (u' := u) (F' := F) (m := n) (HU.out.trans ⟨fun q => (uniq_snoc _ _).2 ⟨q, fun c => absurd (show isW xk = true from c) (by rw [hw.out]; decide)⟩, fun q => ((uniq_snoc _ _).1 q).1⟩) ((T1.out.skipK _ (.inl h0)).skipW _ hw.out) (by omega) (fun b hb => .inl hb) (Gro.of_below B1.out) HB.out HFL.out
    go_wp2_with (go_at_call 57; refine (TH.out _).mono ?_; rintro e w' ⟨rfl, rfl⟩; rw [h0])
    exact bodyPost_ret (results_none rfl _ _ _) rfl FIN.out
  · have H0 := hid h0
    obtain ⟨tg, htg⟩ : ∃ tg, thing xk = tg := ⟨_, rfl⟩
    have HTG := hid htg
    have htg0 : ¬ tg = 0 := by rw [← htg]; exact h0
    have htg1 : (tg == 0) = false := by simpa using htg0
    have LK : (Instr.lookup 60 (.map (some kb)) (.string xs) false).run Try.prog W.drew = .ok (.int .i64 (kindN N xs)) W.drew := (show Ks W.drew kb n N from T1.out.ks.same rfl).look xs HS.out
    obtain ⟨c0, c1, c2, c3, c4, c5⟩ := T1.out.c
    have hkb := (T1.out.flt kb T1.out.fk).2
    have hkbp : kb < pb := by have := (HFL.out kb T1.out.fk).2; have := HPB.out; omega
    clear htg c0 c1 c3 c4 c5 h0 hkb
    by_cases hk : kindN N xs = 0
    · rw [hk] at LK
      obtain ⟨V, U1, T2', G2⟩ := (show Tb B W.drew.drew tb kb wb lb tv kv F n u N N N from T1.out.later (Below.refl _ _).drew.drew).putK (xt, xi, xk, xs, xv, xl, xh, xn) HS.out (by omega) hk H0.out
      have U1' : (Instr.mapUpdate 60 (.map (some kb)) (.string xs) (.int .i64 tg)).run Try.prog W.drew.drew = .ok () V := by have := HTG.out; rw [← this]; exact U1
      have HK := hid hk
      have T2 := hid T2'
      have VS : Hid (pb + 2 ≤ V.heap.size) := by show pb + 2 ≤ V.heap.size; have := G2.size; have h3 : W.drew.drew.heap.size = W.heap.size := rfl; have := HWS.out; omega
      have GV : Hid (Gro F w V) := (Gro.of_below (B1.out.trans (Below.refl _ _).drew.drew)).trans ((Gro.of_grown (P := fun b => b = kb) G2 rfl).mono (fun i _ e => .inl (e ▸ T1.out.fk)))
      have q0 : V.cell? ⟨pb, 0, none⟩ = some (.int .i64 (xt : Int)) := (World.cell?_of_block (a := ⟨pb, 0, none⟩) (G2.block pb (by have h3 : W.drew.drew.heap.size = W.heap.size := rfl; have := HWS.out; omega) (fun e => by have := Option.some.inj e; omega))).trans p0
      have q1 : V.cell? ⟨pb, 1, none⟩ = some (.int .i64 (xi : Int)) := (World.cell?_of_block (a := ⟨pb, 1, none⟩) (G2.block pb (by have h3 : W.drew.drew.heap.size = W.heap.size := rfl; have := HWS.out; omega) (fun e => by have := Option.some.inj e; omega))).trans p1
      have r0 : V.cell? ⟨pb + 1, 0, none⟩ = some (.int .i64 xk) := (World.cell?_of_block (a := ⟨pb + 1, 0, none⟩) (G2.block (pb + 1) (by have h3 : W.drew.drew.heap.size = W.heap.size := rfl; have := HWS.out; omega) (fun e => by have := Option.some.inj e; omega))).trans o0
      have r1 : V.cell? ⟨pb + 1, 1, none⟩ = some (.string xs) := (World.cell?_of_block (a := ⟨pb + 1, 1, none⟩) (G2.block (pb + 1) (by have h3 : W.drew.drew.heap.size = W.heap.size := rfl; have := HWS.out; omega) (fun e => by have := Option.some.inj e; omega))).trans o1
      have r2 : V.cell? ⟨pb + 1, 2, none⟩ = some (.int .i64 xv) := (World.cell?_of_block (a := ⟨pb + 1, 2, none⟩) (G2.block (pb + 1) (by have h3 : W.drew.drew.heap.size = W.heap.size := rfl; have := HWS.out; omega) (fun e => by have := Option.some.inj e; omega))).trans o2
      clear U1 T2' G2 hk hkbp
      go_wp2_with (go_at_call 57; refine (TH.out _).mono ?_; rintro e w' ⟨rfl, rfl⟩; rw [show thing xk = tg from HTG.out])
      go_region
      go_upto_region 4 with fail
      go_region
      clear LK U1' p0 p1 o0 o1 o2 c2
      obtain ⟨vb, hvb⟩ : ∃ vb, V.heap.size = vb := ⟨_, rfl⟩
      have HVB := hid hvb
      have hvl : pb + 2 ≤ vb := by rw [← hvb]; exact VS.out
      clear hvb
      cases hw : isW xk with
      | false =>
        have HWF := hid hw
        clear hw
        have FIN : Hid (NPost B w tb kb wb lb tv kv F n N (xt, xi, xk, xs, xv, xl, xh, xn) (.returned (.tuple #[])) V) := npost_of (u' := u) (F' := F) (m := n + 1) (HU.out.trans ⟨fun q => (uniq_snoc _ _).2 ⟨q, fun c => absurd (show isW xk = true from c) (by rw [HWF.out]; decide)⟩, fun q => ((uniq_snoc _ _).1 q).1⟩) (T2.out.skipW _ HWF.out) (by omega) (fun b hb => .inl hb) GV.out HB.out HFL.out
        go_wp2_with (go_at_call 58; refine (WR.out _).mono ?_; rintro e w' ⟨rfl, rfl⟩; rw [HWF.out])
        exact bodyPost_ret (results_none rfl _ _ _) rfl FIN.out
      | true =>
        have HWT := hid hw
        clear hw
        go_upto_region 6 with (go_at_call 58; refine (WR.out _).mono ?_; rintro e w' ⟨rfl, rfl⟩; rw [HWT.out])
        go_upto_region 7 with fail
        rw [show V.heap.size = vb from HVB.out]
        obtain ⟨X, hX⟩ : ∃ X, V.alloc (.cells #[.string xs, .int .i64 xv] 107) = X := ⟨_, rfl⟩
        have BX : Hid (Below V.heap.size V X) := by rw [← hX]; exact below_box V _
        have T3 : Hid (Tb B X tb kb wb lb tv kv F (n + 1) u (N ++ [(xt, xi, xk, xs, xv, xl, xh, xn)]) N N) := T2.out.later BX.out
        have hXs : X.heap.size = vb + 1 := by rw [← hX]; simp; exact HVB.out
        have v0 : X.cell? ⟨vb, 0, none⟩ = some (.string xs) := by rw [← hX, ← show V.heap.size = vb from HVB.out]; simp
        have v1 : X.cell? ⟨vb, 1, none⟩ = some (.int .i64 xv) := by rw [← hX, ← show V.heap.size = vb from HVB.out]; simp
        have s0 := (BX.out.cell (p := ⟨pb, 0, none⟩) (by show pb < V.heap.size; have := VS.out; omega)).trans q0
        have s1 := (BX.out.cell (p := ⟨pb, 1, none⟩) (by show pb < V.heap.size; have := VS.out; omega)).trans q1
        have t1 := (BX.out.cell (p := ⟨pb + 1, 1, none⟩) (by show pb + 1 < V.heap.size; have := VS.out; omega)).trans r1
        have GX : Hid (Gro F w X) := GV.out.trans (Gro.of_below BX.out)
        rw [hX]
        have HXS := hid hXs
        clear hX T2 q0 q1 r0 r1 r2 GV BX hXs
        obtain ⟨S, hS⟩ := T3.out.ws
        have HSW := hid hS
        obtain ⟨sa, sc, hsl⟩ := own_slice (hS.own xs xv)
        have HSL := hid hsl
        have LW : (Instr.lookup 61 (.map (some wb)) (verV xs xv) false).run Try.prog X.drew = .ok (S xs xv) X.drew := (hS.keep (w' := X.drew) T3.out.fw (fun _ _ => rfl) (fun _ h => h)).look xs xv HS.out HV.out
        rw [hsl] at LW
        unfold verV at LW
        obtain ⟨c0, c1, c2, c3, c4, c5⟩ := T3.out.c
        have f5 : X.frozen? ⟨tb, 5, none⟩ = false := Lib.frozen_of_heap T3.out.box 5
        have UQ := hid (uniq_snoc N (xt, xi, xk, xs, xv, xl, xh, xn))
        have hWL : ((writersN N xs xv).length : Int) ≤ 100000 := by omega
        obtain ⟨wl, hwl⟩ : ∃ wl, (writersN N xs xv).length = wl := ⟨_, rfl⟩
        have HWL := hid hwl
        rw [hwl] at LW hWL
        clear hS hsl hwl c0 c1 c2 c4 hN2
        cases u with
        | false =>
          go_region
          have HUN : Hid (false = true ↔ uniqN (N ++ [(xt, xi, xk, xs, xv, xl, xh, xn)])) := ⟨fun c => absurd c (by decide), fun c => absurd (HU.out.2 (UQ.out.1 c).1) (by decide)⟩

          have YB : ∀ p : Addr, p.block ≠ tb → (X.setCell ⟨tb, 5, none⟩ (.bool false)).drew.cell? p = X.cell? p := fun p hp => World.cell?_of_block (w := X) (show (X.setCell ⟨tb, 5, none⟩ (.bool false)).heap[p.block]? = X.heap[p.block]? from set_ne hp)
          have T4 : Hid (Tb B (X.setCell ⟨tb, 5, none⟩ (.bool false)).drew tb kb wb lb tv kv F (n + 1) false (N ++ [(xt, xi, xk, xs, xv, xl, xh, xn)]) N N) := (T3.out.mark false).later (Below.refl _ _).drew
          have GY : Hid (Gro F w (X.setCell ⟨tb, 5, none⟩ (.bool false)).drew) := GX.out.trans ⟨rfl, rfl, rfl, by simp [World.setCell, World.drew], fun b _ hb => show (X.setCell ⟨tb, 5, none⟩ (.bool false)).heap[b]? = X.heap[b]? from set_ne (fun e => hb (.inl (by rw [e]; exact T3.out.ft)))⟩
          have YS : Hid ((X.setCell ⟨tb, 5, none⟩ (.bool false)).drew.heap.size = vb + 1) := by show (X.setCell ⟨tb, 5, none⟩ (.bool false)).drew.heap.size = vb + 1; rw [← HXS.out]; simp [World.setCell, World.drew]
          have y0 := (YB ⟨vb, 0, none⟩ (by show vb ≠ tb; omega)).trans v0
          have y1 := (YB ⟨vb, 1, none⟩ (by show vb ≠ tb; omega)).trans v1
          have y2 := (YB ⟨pb, 0, none⟩ (by show pb ≠ tb; omega)).trans s0
          have y3 := (YB ⟨pb, 1, none⟩ (by show pb ≠ tb; omega)).trans s1
          have y4 := (YB ⟨pb + 1, 1, none⟩ (by show pb + 1 ≠ tb; omega)).trans t1
          clear v0 v1 s0 s1 t1 c3 c5 f5 LW YB GX T3
          generalize (X.setCell ⟨tb, 5, none⟩ (.bool false)).drew = Y at *
          obtain ⟨S2, hS2⟩ := T4.out.ws
          clear HSW HSL
          obtain ⟨ya, yc, hyl⟩ := own_slice (hS2.own xs xv)
          obtain ⟨c0, c1, c2, c3, c4, c5⟩ := T4.out.c
          obtain ⟨stB, WB, EB, GB, ZB, KB⟩ := (show Tb B ((Y.alloc (.cells #[.int .i64 (xt : Int), .int .i64 (xi : Int)] 54)).drew) tb kb wb lb tv kv F (n + 1) false (N ++ [(xt, xi, xk, xs, xv, xl, xh, xn)]) N N from T4.out.later (below_box Y _).drew).putW (hS2.keep (w' := ((Y.alloc (.cells #[.int .i64 (xt : Int), .int .i64 (xi : Int)] 54)).drew)) T4.out.fw (fun b hb => by show (Y.alloc _).heap[b]? = _; rw [alloc_at, if_neg (by have := (T4.out.flt b hb).2; omega)]) (fun _ h => h)) (xt, xi, xk, xs, xv, xl, xh, xn) HS.out (by omega) HV.out HWT.out (by have := GY.out.size; have := HB.out; show B ≤ (Y.alloc _).heap.size; rw [alloc_size]; omega)
          have OB : Hid (WB.ownsRow B 54 2 (S2 xs xv) (writersN N xs xv).length (wrC (writersN N xs xv))) := own_same (hS2.own xs xv) (fun g hg => by
            have hl := (own_block (hS2.own xs xv) hg).2.1
            have hr := T4.out.row hS2 hg
            refine (GB.block g (by show g < (Y.alloc _).heap.size; rw [alloc_size]; omega) (fun e => hr.2.2.1 (Option.some.inj e))).trans ?_
            show (Y.alloc _).heap[g]? = _
            rw [alloc_at, if_neg (by omega)])
          have NB : Hid (∀ j u, ([.int .i64 (xt : Int), .int .i64 (xi : Int)] : List Value)[j]? = some u → WB.cell? ((⟨Y.heap.size, 0, none⟩ : Addr).add j) = some u) := World.news_of_block (cs := #[.int .i64 (xt : Int), .int .i64 (xi : Int)]) (t := 54) (fr := (0, 0)) ((GB.block Y.heap.size (by show Y.heap.size < (Y.alloc _).heap.size; rw [alloc_size]; omega) (fun e => by have := Option.some.inj e; have := (T4.out.flt wb T4.out.fw).2; omega)).trans (heap_alloc_new Y _))
          have XN : Hid (∀ u ∈ ([.int .i64 (xt : Int), .int .i64 (xi : Int)] : List Value), u.oneCell' = true) := by
            intro u hu
            simp only [List.mem_cons, List.not_mem_nil, or_false] at hu
            rcases hu with rfl | rfl <;> rfl
          have BBs : Hid (B ≤ WB.heap.size) := by have := GY.out.size; have := HB.out; show B ≤ WB.heap.size; have h3 : WB.heap.size = Y.heap.size + 1 := (by rw [ZB]; exact alloc_size Y _); omega
          have EQ2 : Hid (WB.heap.size = Y.heap.size + 1) := by show WB.heap.size = _; rw [ZB]; exact alloc_size Y _
          have KB2 : Hid (∀ g cap w4, w4.ownsRow B 54 2 (.slice (some ⟨g, 0, none⟩) (wl + 1) cap) (wl + 1) (wrC (writersN N xs xv) ++ [.int .i64 (xt : Int), .int .i64 (xi : Int)]) → WB.grownBy w4 (S2 xs xv).ownBlock → ((S2 xs xv).ownBlock = some g ∨ g = WB.heap.size) → g < w4.heap.size → ∃ w3, (Instr.entryStore 61 (.map (some wb)) (.int .i64 (stB : Int)) (.slice (some ⟨g, 0, none⟩) (wl + 1) cap)).run Try.prog w4 = .ok () w3 ∧ Tb B w3 tb kb wb lb tv kv (wide F Y w3) (n + 2) false (N ++ [(xt, xi, xk, xs, xv, xl, xh, xn)]) (N ++ [(xt, xi, xk, xs, xv, xl, xh, xn)]) N ∧ Gro F Y w3) := fun g cap w4 h1 h2 h3 h4 => by
            obtain ⟨w3, e1, e2, e3⟩ := KB WB w4 (.slice (some ⟨g, 0, none⟩) (wl + 1) cap) g (Below.refl _ _) h2 rfl (by rcases h3 with h3 | h3; exact .inl h3; exact .inr (by omega)) h4 (by rw [wrC_append]; have := HWL.out; rw [show (writersN N xs xv).length = wl from this]; exact h1)
            have hw : ∀ b, wide F ((Y.alloc (.cells #[.int .i64 (xt : Int), .int .i64 (xi : Int)] 54)).drew) w3 b → wide F Y w3 b := fun b hb => by
              rcases hb with hb | hb
              · exact .inl hb
              · exact .inr ⟨by have h3 : (Y.alloc (.cells #[.int .i64 (xt : Int), .int .i64 (xi : Int)] 54)).heap.size ≤ b := hb.1; rw [alloc_size] at h3; omega, hb.2⟩
            have hgr : Gro F Y w3 := (Gro.of_below (below_box Y _).drew).trans (e3.mono (fun _ _ h => .inl h))
            exact ⟨w3, e1, e2.wider hw (fun b hb => by
              rcases hb with hb | hb
              · exact ⟨(T4.out.flt b hb).1, by have := (T4.out.flt b hb).2; have := hgr.size; omega⟩
              · exact ⟨by have := GY.out.size; have := HB.out; omega, hb.2⟩) (by omega), hgr⟩
          rw [hyl] at EB OB KB2
          rw [show (writersN N xs xv).length = wl from HWL.out] at EB OB KB2
          unfold verV goInt at EB
          have GBH := hid GB
          have RF : Hid (∀ g, (Value.slice ya wl yc).ownBlock = some g → g < pb) := fun g hg => by have h1 := HFL.out g (hS2.foot xs xv g (by rw [hyl, show (writersN N xs xv).length = wl from HWL.out]; exact hg)); have := HPB.out; omega
          have RT : Hid ((Value.slice ya wl yc).ownBlock ≠ some tb) := fun e => (T4.out.row hS2 (s := xs) (v := xv) (by rw [hyl, show (writersN N xs xv).length = wl from HWL.out]; exact e)).1 rfl
          clear hS2 hyl GB ZB KB c0 c1 c2 c4 c5
          have lv1 : vb < Y.heap.size := by rw [YS.out]; omega
          have lv2 : pb < Y.heap.size := by rw [YS.out]; omega
          have lv3 : pb + 1 < Y.heap.size := by rw [YS.out]; omega
          have lv4 : tb < Y.heap.size := by rw [YS.out]; omega
          have hwbp : wb < pb := by have := (HFL.out wb T4.out.fw).2; have := HPB.out; omega
          have hTW : tb ≠ wb := T4.out.boxes.2.1
          have eB0 : WB.cell? ⟨vb, 0, none⟩ = some (.string xs) := (World.cell?_of_block (a := ⟨vb, 0, none⟩) (GBH.out.block vb (by show vb < (Y.alloc _).heap.size; rw [alloc_size]; omega) (fun e => by have := Option.some.inj e; omega))).trans (((below_box Y _).drew.cell (p := ⟨vb, 0, none⟩) lv1).trans y0)
          have eB1 : WB.cell? ⟨vb, 1, none⟩ = some (.int .i64 xv) := (World.cell?_of_block (a := ⟨vb, 1, none⟩) (GBH.out.block vb (by show vb < (Y.alloc _).heap.size; rw [alloc_size]; omega) (fun e => by have := Option.some.inj e; omega))).trans (((below_box Y _).drew.cell (p := ⟨vb, 1, none⟩) lv1).trans y1)
          have eB2 : WB.cell? ⟨pb, 0, none⟩ = some (.int .i64 (xt : Int)) := (World.cell?_of_block (a := ⟨pb, 0, none⟩) (GBH.out.block pb (by show pb < (Y.alloc _).heap.size; rw [alloc_size]; omega) (fun e => by have := Option.some.inj e; omega))).trans (((below_box Y _).drew.cell (p := ⟨pb, 0, none⟩) lv2).trans y2)
          have eB3 : WB.cell? ⟨pb, 1, none⟩ = some (.int .i64 (xi : Int)) := (World.cell?_of_block (a := ⟨pb, 1, none⟩) (GBH.out.block pb (by show pb < (Y.alloc _).heap.size; rw [alloc_size]; omega) (fun e => by have := Option.some.inj e; omega))).trans (((below_box Y _).drew.cell (p := ⟨pb, 1, none⟩) lv2).trans y3)
          have eB4 : WB.cell? ⟨tb, 3, none⟩ = some (.map (some wb)) := (World.cell?_of_block (a := ⟨tb, 3, none⟩) (GBH.out.block tb (by show tb < (Y.alloc _).heap.size; rw [alloc_size]; omega) (fun e => hTW (Option.some.inj e)))).trans (((below_box Y _).drew.cell (p := ⟨tb, 3, none⟩) lv4).trans c3)
          clear GBH hTW
          go_upto_region 8 with fail
          go_region_held3 (fun w' => w'.cell? ⟨vb, 0, none⟩ = some (.string xs) ∧ w'.cell? ⟨vb, 1, none⟩ = some (.int .i64 xv) ∧ w'.cell? ⟨pb, 0, none⟩ = some (.int .i64 (xt : Int)) ∧ w'.cell? ⟨pb, 1, none⟩ = some (.int .i64 (xi : Int)) ∧ w'.cell? ⟨tb, 3, none⟩ = some (.map (some wb))) (go_keep)
            ((refine step_append_lies WB rfl (.tmp 59) (.tmp 61) 51 rfl B 54 i0 _ 2 16 Try.underlying51 HI0.out HZ0.out HZ1.out HZ2.out rfl (by decide) (.slice ya wl yc) wl (wrC (writersN N xs xv)) (by simp [Act.eval, Act.put]) OB.out ⟨Y.heap.size, 0, none⟩ 1 1 [.int .i64 (xt : Int), .int .i64 (xi : Int)] (by simp [Act.eval, Act.put]) rfl NB.out XN.out (by decide) (by unfold maxLen; omega) (by omega) BBs.out WB.heap.size rfl ?_; intro g cap w4 hown4 hgrow hat hglt; have w4c0 : w4.cell? ⟨vb, 0, none⟩ = some (.string xs) := (World.cell?_of_block (a := ⟨vb, 0, none⟩) (hgrow.block vb (by rw [EQ2.out]; omega) (fun e => by have := RF.out vb e.symm; omega))).trans eB0; have w4c1 : w4.cell? ⟨vb, 1, none⟩ = some (.int .i64 xv) := (World.cell?_of_block (a := ⟨vb, 1, none⟩) (hgrow.block vb (by rw [EQ2.out]; omega) (fun e => by have := RF.out vb e.symm; omega))).trans eB1; have w4c2 : w4.cell? ⟨pb, 0, none⟩ = some (.int .i64 (xt : Int)) := (World.cell?_of_block (a := ⟨pb, 0, none⟩) (hgrow.block pb (by rw [EQ2.out]; omega) (fun e => by have := RF.out pb e.symm; omega))).trans eB2; have w4c3 : w4.cell? ⟨pb, 1, none⟩ = some (.int .i64 (xi : Int)) := (World.cell?_of_block (a := ⟨pb, 1, none⟩) (hgrow.block pb (by rw [EQ2.out]; omega) (fun e => by have := RF.out pb e.symm; omega))).trans eB3; have w4c4 : w4.cell? ⟨tb, 3, none⟩ = some (.map (some wb)) := (World.cell?_of_block (a := ⟨tb, 3, none⟩) (hgrow.block tb (by rw [EQ2.out]; omega) (fun e => RT.out e.symm))).trans eB4; obtain ⟨w3, ES, T5', G5'⟩ := KB2.out g cap w4 hown4 hgrow hat hglt; have w3c0 : w3.cell? ⟨vb, 0, none⟩ = some (.string xs) := (World.cell?_of_block (a := ⟨vb, 0, none⟩) (G5'.block vb lv1 (fun e => by have := (HFL.out _ e).2; have := HPB.out; omega))).trans y0; have w3c1 : w3.cell? ⟨vb, 1, none⟩ = some (.int .i64 xv) := (World.cell?_of_block (a := ⟨vb, 1, none⟩) (G5'.block vb lv1 (fun e => by have := (HFL.out _ e).2; have := HPB.out; omega))).trans y1; have w3c2 : w3.cell? ⟨pb, 0, none⟩ = some (.int .i64 (xt : Int)) := (World.cell?_of_block (a := ⟨pb, 0, none⟩) (G5'.block pb lv2 (fun e => by have := (HFL.out _ e).2; have := HPB.out; omega))).trans y2; have w3c3 : w3.cell? ⟨pb, 1, none⟩ = some (.int .i64 (xi : Int)) := (World.cell?_of_block (a := ⟨pb, 1, none⟩) (G5'.block pb lv2 (fun e => by have := (HFL.out _ e).2; have := HPB.out; omega))).trans y3; have w3c4 : w3.cell? ⟨tb, 3, none⟩ = some (.map (some wb)) := T5'.c.2.2.2.1; have T5 := hid T5'; have G5 := hid G5'; clear hown4 hgrow hat hglt T5' G5'))
          have z5 : w3.cell? ⟨pb + 1, 1, none⟩ = some (.string xs) := (World.cell?_of_block (a := ⟨pb + 1, 1, none⟩) (G5.out.block (pb + 1) lv3 (fun e => by have := (HFL.out _ e).2; have := HPB.out; omega))).trans y4
          obtain ⟨d0, d1, d2, d3, d4, d5⟩ := T5.out.c
          obtain ⟨W9, U9, T6', G9'⟩ := (show Tb B w3.drew tb kb wb lb tv kv (wide F Y w3) (n + 2) false (N ++ [(xt, xi, xk, xs, xv, xl, xh, xn)]) (N ++ [(xt, xi, xk, xs, xv, xl, xh, xn)]) N from T5.out.later (Below.refl _ _).drew).putL (xt, xi, xk, xs, xv, xl, xh, xn) HS.out (by omega) ht HWT.out
          unfold parV at U9
          have FIN : Hid (NPost B w tb kb wb lb tv kv F n N (xt, xi, xk, xs, xv, xl, xh, xn) (.returned (.tuple #[])) W9) := npost_of (u' := false) (F' := wide F Y w3) (m := n + 3) HUN.out T6' (Nat.le_refl _) (fun b hb => by
              have h1 : w3.heap.size ≤ W9.heap.size := G9'.size
              have h2 := GY.out.size
              rcases hb with hb | hb
              · exact .inl hb
              · exact .inr ⟨by omega, by omega⟩)
            ((GY.out.trans (G5.out.mono (fun _ _ h => .inl h))).trans ((Gro.of_below (P := wide F w w3) (Below.refl _ w3).drew).trans ((Gro.of_grown (P := fun b => b = lb) G9' rfl).mono (fun i _ e => .inl (.inl (e ▸ T4.out.fl)))))) HB.out HFL.out
          clear T6' G9' d0 d1 d2 d3 d5 w3c0 w3c1 w3c4 w4c0 w4c1 w4c2 w4c3 w4c4 eB0 eB1 eB2 eB3 eB4 y0 y1 y2 y3 y4 ES
          go_upto_region 9 with fail
          go_region
          go_end0
          exact FIN.out
        | true =>
          by_cases hw0 : wl = 0
          · have hw1 : ((wl : Int) == 0) = true := by simp [hw0]
            have HW0 := hid hw0
            clear hw0
            go_region
            have HUN : Hid (true = true ↔ uniqN (N ++ [(xt, xi, xk, xs, xv, xl, xh, xn)])) := ⟨fun _ => UQ.out.2 ⟨HU.out.1 rfl, fun _ => List.length_eq_zero_iff.1 (HWL.out.trans HW0.out)⟩, fun _ => rfl⟩

            have YB : ∀ p : Addr, p.block ≠ tb → (X.setCell ⟨tb, 5, none⟩ (.bool true)).drew.cell? p = X.cell? p := fun p hp => World.cell?_of_block (w := X) (show (X.setCell ⟨tb, 5, none⟩ (.bool true)).heap[p.block]? = X.heap[p.block]? from set_ne hp)
            have T4 : Hid (Tb B (X.setCell ⟨tb, 5, none⟩ (.bool true)).drew tb kb wb lb tv kv F (n + 1) true (N ++ [(xt, xi, xk, xs, xv, xl, xh, xn)]) N N) := (T3.out.mark true).later (Below.refl _ _).drew
            have GY : Hid (Gro F w (X.setCell ⟨tb, 5, none⟩ (.bool true)).drew) := GX.out.trans ⟨rfl, rfl, rfl, by simp [World.setCell, World.drew], fun b _ hb => show (X.setCell ⟨tb, 5, none⟩ (.bool true)).heap[b]? = X.heap[b]? from set_ne (fun e => hb (.inl (by rw [e]; exact T3.out.ft)))⟩
            have YS : Hid ((X.setCell ⟨tb, 5, none⟩ (.bool true)).drew.heap.size = vb + 1) := by show (X.setCell ⟨tb, 5, none⟩ (.bool true)).drew.heap.size = vb + 1; rw [← HXS.out]; simp [World.setCell, World.drew]
            have y0 := (YB ⟨vb, 0, none⟩ (by show vb ≠ tb; omega)).trans v0
            have y1 := (YB ⟨vb, 1, none⟩ (by show vb ≠ tb; omega)).trans v1
            have y2 := (YB ⟨pb, 0, none⟩ (by show pb ≠ tb; omega)).trans s0
            have y3 := (YB ⟨pb, 1, none⟩ (by show pb ≠ tb; omega)).trans s1
            have y4 := (YB ⟨pb + 1, 1, none⟩ (by show pb + 1 ≠ tb; omega)).trans t1
            clear v0 v1 s0 s1 t1 c3 c5 f5 LW YB GX T3
            generalize (X.setCell ⟨tb, 5, none⟩ (.bool true)).drew = Y at *
            obtain ⟨S2, hS2⟩ := T4.out.ws
            clear HSW HSL
            obtain ⟨ya, yc, hyl⟩ := own_slice (hS2.own xs xv)
            obtain ⟨c0, c1, c2, c3, c4, c5⟩ := T4.out.c
            obtain ⟨stB, WB, EB, GB, ZB, KB⟩ := (show Tb B ((Y.alloc (.cells #[.int .i64 (xt : Int), .int .i64 (xi : Int)] 54)).drew) tb kb wb lb tv kv F (n + 1) true (N ++ [(xt, xi, xk, xs, xv, xl, xh, xn)]) N N from T4.out.later (below_box Y _).drew).putW (hS2.keep (w' := ((Y.alloc (.cells #[.int .i64 (xt : Int), .int .i64 (xi : Int)] 54)).drew)) T4.out.fw (fun b hb => by show (Y.alloc _).heap[b]? = _; rw [alloc_at, if_neg (by have := (T4.out.flt b hb).2; omega)]) (fun _ h => h)) (xt, xi, xk, xs, xv, xl, xh, xn) HS.out (by omega) HV.out HWT.out (by have := GY.out.size; have := HB.out; show B ≤ (Y.alloc _).heap.size; rw [alloc_size]; omega)
            have OB : Hid (WB.ownsRow B 54 2 (S2 xs xv) (writersN N xs xv).length (wrC (writersN N xs xv))) := own_same (hS2.own xs xv) (fun g hg => by
              have hl := (own_block (hS2.own xs xv) hg).2.1
              have hr := T4.out.row hS2 hg
              refine (GB.block g (by show g < (Y.alloc _).heap.size; rw [alloc_size]; omega) (fun e => hr.2.2.1 (Option.some.inj e))).trans ?_
              show (Y.alloc _).heap[g]? = _
              rw [alloc_at, if_neg (by omega)])
            have NB : Hid (∀ j u, ([.int .i64 (xt : Int), .int .i64 (xi : Int)] : List Value)[j]? = some u → WB.cell? ((⟨Y.heap.size, 0, none⟩ : Addr).add j) = some u) := World.news_of_block (cs := #[.int .i64 (xt : Int), .int .i64 (xi : Int)]) (t := 54) (fr := (0, 0)) ((GB.block Y.heap.size (by show Y.heap.size < (Y.alloc _).heap.size; rw [alloc_size]; omega) (fun e => by have := Option.some.inj e; have := (T4.out.flt wb T4.out.fw).2; omega)).trans (heap_alloc_new Y _))
            have XN : Hid (∀ u ∈ ([.int .i64 (xt : Int), .int .i64 (xi : Int)] : List Value), u.oneCell' = true) := by
              intro u hu
              simp only [List.mem_cons, List.not_mem_nil, or_false] at hu
              rcases hu with rfl | rfl <;> rfl
            have BBs : Hid (B ≤ WB.heap.size) := by have := GY.out.size; have := HB.out; show B ≤ WB.heap.size; have h3 : WB.heap.size = Y.heap.size + 1 := (by rw [ZB]; exact alloc_size Y _); omega
            have EQ2 : Hid (WB.heap.size = Y.heap.size + 1) := by show WB.heap.size = _; rw [ZB]; exact alloc_size Y _
            have KB2 : Hid (∀ g cap w4, w4.ownsRow B 54 2 (.slice (some ⟨g, 0, none⟩) (wl + 1) cap) (wl + 1) (wrC (writersN N xs xv) ++ [.int .i64 (xt : Int), .int .i64 (xi : Int)]) → WB.grownBy w4 (S2 xs xv).ownBlock → ((S2 xs xv).ownBlock = some g ∨ g = WB.heap.size) → g < w4.heap.size → ∃ w3, (Instr.entryStore 61 (.map (some wb)) (.int .i64 (stB : Int)) (.slice (some ⟨g, 0, none⟩) (wl + 1) cap)).run Try.prog w4 = .ok () w3 ∧ Tb B w3 tb kb wb lb tv kv (wide F Y w3) (n + 2) true (N ++ [(xt, xi, xk, xs, xv, xl, xh, xn)]) (N ++ [(xt, xi, xk, xs, xv, xl, xh, xn)]) N ∧ Gro F Y w3) := fun g cap w4 h1 h2 h3 h4 => by
              obtain ⟨w3, e1, e2, e3⟩ := KB WB w4 (.slice (some ⟨g, 0, none⟩) (wl + 1) cap) g (Below.refl _ _) h2 rfl (by rcases h3 with h3 | h3; exact .inl h3; exact .inr (by omega)) h4 (by rw [wrC_append]; have := HWL.out; rw [show (writersN N xs xv).length = wl from this]; exact h1)
              have hw : ∀ b, wide F ((Y.alloc (.cells #[.int .i64 (xt : Int), .int .i64 (xi : Int)] 54)).drew) w3 b → wide F Y w3 b := fun b hb => by
                rcases hb with hb | hb
                · exact .inl hb
                · exact .inr ⟨by have h3 : (Y.alloc (.cells #[.int .i64 (xt : Int), .int .i64 (xi : Int)] 54)).heap.size ≤ b := hb.1; rw [alloc_size] at h3; omega, hb.2⟩
              have hgr : Gro F Y w3 := (Gro.of_below (below_box Y _).drew).trans (e3.mono (fun _ _ h => .inl h))
              exact ⟨w3, e1, e2.wider hw (fun b hb => by
                rcases hb with hb | hb
                · exact ⟨(T4.out.flt b hb).1, by have := (T4.out.flt b hb).2; have := hgr.size; omega⟩
                · exact ⟨by have := GY.out.size; have := HB.out; omega, hb.2⟩) (by omega), hgr⟩
            rw [hyl] at EB OB KB2
            rw [show (writersN N xs xv).length = wl from HWL.out] at EB OB KB2
            unfold verV goInt at EB
            have GBH := hid GB
            have RF : Hid (∀ g, (Value.slice ya wl yc).ownBlock = some g → g < pb) := fun g hg => by have h1 := HFL.out g (hS2.foot xs xv g (by rw [hyl, show (writersN N xs xv).length = wl from HWL.out]; exact hg)); have := HPB.out; omega
            have RT : Hid ((Value.slice ya wl yc).ownBlock ≠ some tb) := fun e => (T4.out.row hS2 (s := xs) (v := xv) (by rw [hyl, show (writersN N xs xv).length = wl from HWL.out]; exact e)).1 rfl
            clear hS2 hyl GB ZB KB c0 c1 c2 c4 c5
            have lv1 : vb < Y.heap.size := by rw [YS.out]; omega
            have lv2 : pb < Y.heap.size := by rw [YS.out]; omega
            have lv3 : pb + 1 < Y.heap.size := by rw [YS.out]; omega
            have lv4 : tb < Y.heap.size := by rw [YS.out]; omega
            have hwbp : wb < pb := by have := (HFL.out wb T4.out.fw).2; have := HPB.out; omega
            have hTW : tb ≠ wb := T4.out.boxes.2.1
            have eB0 : WB.cell? ⟨vb, 0, none⟩ = some (.string xs) := (World.cell?_of_block (a := ⟨vb, 0, none⟩) (GBH.out.block vb (by show vb < (Y.alloc _).heap.size; rw [alloc_size]; omega) (fun e => by have := Option.some.inj e; omega))).trans (((below_box Y _).drew.cell (p := ⟨vb, 0, none⟩) lv1).trans y0)
            have eB1 : WB.cell? ⟨vb, 1, none⟩ = some (.int .i64 xv) := (World.cell?_of_block (a := ⟨vb, 1, none⟩) (GBH.out.block vb (by show vb < (Y.alloc _).heap.size; rw [alloc_size]; omega) (fun e => by have := Option.some.inj e; omega))).trans (((below_box Y _).drew.cell (p := ⟨vb, 1, none⟩) lv1).trans y1)
            have eB2 : WB.cell? ⟨pb, 0, none⟩ = some (.int .i64 (xt : Int)) := (World.cell?_of_block (a := ⟨pb, 0, none⟩) (GBH.out.block pb (by show pb < (Y.alloc _).heap.size; rw [alloc_size]; omega) (fun e => by have := Option.some.inj e; omega))).trans (((below_box Y _).drew.cell (p := ⟨pb, 0, none⟩) lv2).trans y2)
            have eB3 : WB.cell? ⟨pb, 1, none⟩ = some (.int .i64 (xi : Int)) := (World.cell?_of_block (a := ⟨pb, 1, none⟩) (GBH.out.block pb (by show pb < (Y.alloc _).heap.size; rw [alloc_size]; omega) (fun e => by have := Option.some.inj e; omega))).trans (((below_box Y _).drew.cell (p := ⟨pb, 1, none⟩) lv2).trans y3)
            have eB4 : WB.cell? ⟨tb, 3, none⟩ = some (.map (some wb)) := (World.cell?_of_block (a := ⟨tb, 3, none⟩) (GBH.out.block tb (by show tb < (Y.alloc _).heap.size; rw [alloc_size]; omega) (fun e => hTW (Option.some.inj e)))).trans (((below_box Y _).drew.cell (p := ⟨tb, 3, none⟩) lv4).trans c3)
            clear GBH hTW
            go_upto_region 8 with fail
            go_region_held3 (fun w' => w'.cell? ⟨vb, 0, none⟩ = some (.string xs) ∧ w'.cell? ⟨vb, 1, none⟩ = some (.int .i64 xv) ∧ w'.cell? ⟨pb, 0, none⟩ = some (.int .i64 (xt : Int)) ∧ w'.cell? ⟨pb, 1, none⟩ = some (.int .i64 (xi : Int)) ∧ w'.cell? ⟨tb, 3, none⟩ = some (.map (some wb))) (go_keep)
              ((refine step_append_lies WB rfl (.tmp 59) (.tmp 61) 51 rfl B 54 i0 _ 2 16 Try.underlying51 HI0.out HZ0.out HZ1.out HZ2.out rfl (by decide) (.slice ya wl yc) wl (wrC (writersN N xs xv)) (by simp [Act.eval, Act.put]) OB.out ⟨Y.heap.size, 0, none⟩ 1 1 [.int .i64 (xt : Int), .int .i64 (xi : Int)] (by simp [Act.eval, Act.put]) rfl NB.out XN.out (by decide) (by unfold maxLen; omega) (by omega) BBs.out WB.heap.size rfl ?_; intro g cap w4 hown4 hgrow hat hglt; have w4c0 : w4.cell? ⟨vb, 0, none⟩ = some (.string xs) := (World.cell?_of_block (a := ⟨vb, 0, none⟩) (hgrow.block vb (by rw [EQ2.out]; omega) (fun e => by have := RF.out vb e.symm; omega))).trans eB0; have w4c1 : w4.cell? ⟨vb, 1, none⟩ = some (.int .i64 xv) := (World.cell?_of_block (a := ⟨vb, 1, none⟩) (hgrow.block vb (by rw [EQ2.out]; omega) (fun e => by have := RF.out vb e.symm; omega))).trans eB1; have w4c2 : w4.cell? ⟨pb, 0, none⟩ = some (.int .i64 (xt : Int)) := (World.cell?_of_block (a := ⟨pb, 0, none⟩) (hgrow.block pb (by rw [EQ2.out]; omega) (fun e => by have := RF.out pb e.symm; omega))).trans eB2; have w4c3 : w4.cell? ⟨pb, 1, none⟩ = some (.int .i64 (xi : Int)) := (World.cell?_of_block (a := ⟨pb, 1, none⟩) (hgrow.block pb (by rw [EQ2.out]; omega) (fun e => by have := RF.out pb e.symm; omega))).trans eB3; have w4c4 : w4.cell? ⟨tb, 3, none⟩ = some (.map (some wb)) := (World.cell?_of_block (a := ⟨tb, 3, none⟩) (hgrow.block tb (by rw [EQ2.out]; omega) (fun e => RT.out e.symm))).trans eB4; obtain ⟨w3, ES, T5', G5'⟩ := KB2.out g cap w4 hown4 hgrow hat hglt; have w3c0 : w3.cell? ⟨vb, 0, none⟩ = some (.string xs) := (World.cell?_of_block (a := ⟨vb, 0, none⟩) (G5'.block vb lv1 (fun e => by have := (HFL.out _ e).2; have := HPB.out; omega))).trans y0; have w3c1 : w3.cell? ⟨vb, 1, none⟩ = some (.int .i64 xv) := (World.cell?_of_block (a := ⟨vb, 1, none⟩) (G5'.block vb lv1 (fun e => by have := (HFL.out _ e).2; have := HPB.out; omega))).trans y1; have w3c2 : w3.cell? ⟨pb, 0, none⟩ = some (.int .i64 (xt : Int)) := (World.cell?_of_block (a := ⟨pb, 0, none⟩) (G5'.block pb lv2 (fun e => by have := (HFL.out _ e).2; have := HPB.out; omega))).trans y2; have w3c3 : w3.cell? ⟨pb, 1, none⟩ = some (.int .i64 (xi : Int)) := (World.cell?_of_block (a := ⟨pb, 1, none⟩) (G5'.block pb lv2 (fun e => by have := (HFL.out _ e).2; have := HPB.out; omega))).trans y3; have w3c4 : w3.cell? ⟨tb, 3, none⟩ = some (.map (some wb)) := T5'.c.2.2.2.1; have T5 := hid T5'; have G5 := hid G5'; clear hown4 hgrow hat hglt T5' G5'))
            have z5 : w3.cell? ⟨pb + 1, 1, none⟩ = some (.string xs) := (World.cell?_of_block (a := ⟨pb + 1, 1, none⟩) (G5.out.block (pb + 1) lv3 (fun e => by have := (HFL.out _ e).2; have := HPB.out; omega))).trans y4
            obtain ⟨d0, d1, d2, d3, d4, d5⟩ := T5.out.c
            obtain ⟨W9, U9, T6', G9'⟩ := (show Tb B w3.drew tb kb wb lb tv kv (wide F Y w3) (n + 2) true (N ++ [(xt, xi, xk, xs, xv, xl, xh, xn)]) (N ++ [(xt, xi, xk, xs, xv, xl, xh, xn)]) N from T5.out.later (Below.refl _ _).drew).putL (xt, xi, xk, xs, xv, xl, xh, xn) HS.out (by omega) ht HWT.out
            unfold parV at U9
            have FIN : Hid (NPost B w tb kb wb lb tv kv F n N (xt, xi, xk, xs, xv, xl, xh, xn) (.returned (.tuple #[])) W9) := npost_of (u' := true) (F' := wide F Y w3) (m := n + 3) HUN.out T6' (Nat.le_refl _) (fun b hb => by
                have h1 : w3.heap.size ≤ W9.heap.size := G9'.size
                have h2 := GY.out.size
                rcases hb with hb | hb
                · exact .inl hb
                · exact .inr ⟨by omega, by omega⟩)
              ((GY.out.trans (G5.out.mono (fun _ _ h => .inl h))).trans ((Gro.of_below (P := wide F w w3) (Below.refl _ w3).drew).trans ((Gro.of_grown (P := fun b => b = lb) G9' rfl).mono (fun i _ e => .inl (.inl (e ▸ T4.out.fl)))))) HB.out HFL.out
            clear T6' G9' d0 d1 d2 d3 d5 w3c0 w3c1 w3c4 w4c0 w4c1 w4c2 w4c3 w4c4 eB0 eB1 eB2 eB3 eB4 y0 y1 y2 y3 y4 ES
            go_upto_region 9 with fail
            go_region
            go_end0
            exact FIN.out
          · have hw1 : ((wl : Int) == 0) = false := by simp; omega
            have hw2 : ¬ (wl : Int) = 0 := by omega
            go_region
            have HUN : Hid (false = true ↔ uniqN (N ++ [(xt, xi, xk, xs, xv, xl, xh, xn)])) := ⟨fun c => absurd c (by decide), fun c => absurd (show wl = 0 from by rw [← HWL.out, (UQ.out.1 c).2 HWT.out]; rfl) hw0⟩

            have YB : ∀ p : Addr, p.block ≠ tb → (X.setCell ⟨tb, 5, none⟩ (.bool false)).drew.cell? p = X.cell? p := fun p hp => World.cell?_of_block (w := X) (show (X.setCell ⟨tb, 5, none⟩ (.bool false)).heap[p.block]? = X.heap[p.block]? from set_ne hp)
            have T4 : Hid (Tb B (X.setCell ⟨tb, 5, none⟩ (.bool false)).drew tb kb wb lb tv kv F (n + 1) false (N ++ [(xt, xi, xk, xs, xv, xl, xh, xn)]) N N) := (T3.out.mark false).later (Below.refl _ _).drew
            have GY : Hid (Gro F w (X.setCell ⟨tb, 5, none⟩ (.bool false)).drew) := GX.out.trans ⟨rfl, rfl, rfl, by simp [World.setCell, World.drew], fun b _ hb => show (X.setCell ⟨tb, 5, none⟩ (.bool false)).heap[b]? = X.heap[b]? from set_ne (fun e => hb (.inl (by rw [e]; exact T3.out.ft)))⟩
            have YS : Hid ((X.setCell ⟨tb, 5, none⟩ (.bool false)).drew.heap.size = vb + 1) := by show (X.setCell ⟨tb, 5, none⟩ (.bool false)).drew.heap.size = vb + 1; rw [← HXS.out]; simp [World.setCell, World.drew]
            have y0 := (YB ⟨vb, 0, none⟩ (by show vb ≠ tb; omega)).trans v0
            have y1 := (YB ⟨vb, 1, none⟩ (by show vb ≠ tb; omega)).trans v1
            have y2 := (YB ⟨pb, 0, none⟩ (by show pb ≠ tb; omega)).trans s0
            have y3 := (YB ⟨pb, 1, none⟩ (by show pb ≠ tb; omega)).trans s1
            have y4 := (YB ⟨pb + 1, 1, none⟩ (by show pb + 1 ≠ tb; omega)).trans t1
            clear v0 v1 s0 s1 t1 c3 c5 f5 LW YB GX T3
            generalize (X.setCell ⟨tb, 5, none⟩ (.bool false)).drew = Y at *
            obtain ⟨S2, hS2⟩ := T4.out.ws
            clear HSW HSL
            obtain ⟨ya, yc, hyl⟩ := own_slice (hS2.own xs xv)
            obtain ⟨c0, c1, c2, c3, c4, c5⟩ := T4.out.c
            obtain ⟨stB, WB, EB, GB, ZB, KB⟩ := (show Tb B ((Y.alloc (.cells #[.int .i64 (xt : Int), .int .i64 (xi : Int)] 54)).drew) tb kb wb lb tv kv F (n + 1) false (N ++ [(xt, xi, xk, xs, xv, xl, xh, xn)]) N N from T4.out.later (below_box Y _).drew).putW (hS2.keep (w' := ((Y.alloc (.cells #[.int .i64 (xt : Int), .int .i64 (xi : Int)] 54)).drew)) T4.out.fw (fun b hb => by show (Y.alloc _).heap[b]? = _; rw [alloc_at, if_neg (by have := (T4.out.flt b hb).2; omega)]) (fun _ h => h)) (xt, xi, xk, xs, xv, xl, xh, xn) HS.out (by omega) HV.out HWT.out (by have := GY.out.size; have := HB.out; show B ≤ (Y.alloc _).heap.size; rw [alloc_size]; omega)
            have OB : Hid (WB.ownsRow B 54 2 (S2 xs xv) (writersN N xs xv).length (wrC (writersN N xs xv))) := own_same (hS2.own xs xv) (fun g hg => by
              have hl := (own_block (hS2.own xs xv) hg).2.1
              have hr := T4.out.row hS2 hg
              refine (GB.block g (by show g < (Y.alloc _).heap.size; rw [alloc_size]; omega) (fun e => hr.2.2.1 (Option.some.inj e))).trans ?_
              show (Y.alloc _).heap[g]? = _
              rw [alloc_at, if_neg (by omega)])
            have NB : Hid (∀ j u, ([.int .i64 (xt : Int), .int .i64 (xi : Int)] : List Value)[j]? = some u → WB.cell? ((⟨Y.heap.size, 0, none⟩ : Addr).add j) = some u) := World.news_of_block (cs := #[.int .i64 (xt : Int), .int .i64 (xi : Int)]) (t := 54) (fr := (0, 0)) ((GB.block Y.heap.size (by show Y.heap.size < (Y.alloc _).heap.size; rw [alloc_size]; omega) (fun e => by have := Option.some.inj e; have := (T4.out.flt wb T4.out.fw).2; omega)).trans (heap_alloc_new Y _))
            have XN : Hid (∀ u ∈ ([.int .i64 (xt : Int), .int .i64 (xi : Int)] : List Value), u.oneCell' = true) := by
              intro u hu
              simp only [List.mem_cons, List.not_mem_nil, or_false] at hu
              rcases hu with rfl | rfl <;> rfl
            have BBs : Hid (B ≤ WB.heap.size) := by have := GY.out.size; have := HB.out; show B ≤ WB.heap.size; have h3 : WB.heap.size = Y.heap.size + 1 := (by rw [ZB]; exact alloc_size Y _); omega
            have EQ2 : Hid (WB.heap.size = Y.heap.size + 1) := by show WB.heap.size = _; rw [ZB]; exact alloc_size Y _
            have KB2 : Hid (∀ g cap w4, w4.ownsRow B 54 2 (.slice (some ⟨g, 0, none⟩) (wl + 1) cap) (wl + 1) (wrC (writersN N xs xv) ++ [.int .i64 (xt : Int), .int .i64 (xi : Int)]) → WB.grownBy w4 (S2 xs xv).ownBlock → ((S2 xs xv).ownBlock = some g ∨ g = WB.heap.size) → g < w4.heap.size → ∃ w3, (Instr.entryStore 61 (.map (some wb)) (.int .i64 (stB : Int)) (.slice (some ⟨g, 0, none⟩) (wl + 1) cap)).run Try.prog w4 = .ok () w3 ∧ Tb B w3 tb kb wb lb tv kv (wide F Y w3) (n + 2) false (N ++ [(xt, xi, xk, xs, xv, xl, xh, xn)]) (N ++ [(xt, xi, xk, xs, xv, xl, xh, xn)]) N ∧ Gro F Y w3) := fun g cap w4 h1 h2 h3 h4 => by
              obtain ⟨w3, e1, e2, e3⟩ := KB WB w4 (.slice (some ⟨g, 0, none⟩) (wl + 1) cap) g (Below.refl _ _) h2 rfl (by rcases h3 with h3 | h3; exact .inl h3; exact .inr (by omega)) h4 (by rw [wrC_append]; have := HWL.out; rw [show (writersN N xs xv).length = wl from this]; exact h1)
              have hw : ∀ b, wide F ((Y.alloc (.cells #[.int .i64 (xt : Int), .int .i64 (xi : Int)] 54)).drew) w3 b → wide F Y w3 b := fun b hb => by
                rcases hb with hb | hb
                · exact .inl hb
                · exact .inr ⟨by have h3 : (Y.alloc (.cells #[.int .i64 (xt : Int), .int .i64 (xi : Int)] 54)).heap.size ≤ b := hb.1; rw [alloc_size] at h3; omega, hb.2⟩
              have hgr : Gro F Y w3 := (Gro.of_below (below_box Y _).drew).trans (e3.mono (fun _ _ h => .inl h))
              exact ⟨w3, e1, e2.wider hw (fun b hb => by
                rcases hb with hb | hb
                · exact ⟨(T4.out.flt b hb).1, by have := (T4.out.flt b hb).2; have := hgr.size; omega⟩
                · exact ⟨by have := GY.out.size; have := HB.out; omega, hb.2⟩) (by omega), hgr⟩
            rw [hyl] at EB OB KB2
            rw [show (writersN N xs xv).length = wl from HWL.out] at EB OB KB2
            unfold verV goInt at EB
            have GBH := hid GB
            have RF : Hid (∀ g, (Value.slice ya wl yc).ownBlock = some g → g < pb) := fun g hg => by have h1 := HFL.out g (hS2.foot xs xv g (by rw [hyl, show (writersN N xs xv).length = wl from HWL.out]; exact hg)); have := HPB.out; omega
            have RT : Hid ((Value.slice ya wl yc).ownBlock ≠ some tb) := fun e => (T4.out.row hS2 (s := xs) (v := xv) (by rw [hyl, show (writersN N xs xv).length = wl from HWL.out]; exact e)).1 rfl
            clear hS2 hyl GB ZB KB c0 c1 c2 c4 c5
            have lv1 : vb < Y.heap.size := by rw [YS.out]; omega
            have lv2 : pb < Y.heap.size := by rw [YS.out]; omega
            have lv3 : pb + 1 < Y.heap.size := by rw [YS.out]; omega
            have lv4 : tb < Y.heap.size := by rw [YS.out]; omega
            have hwbp : wb < pb := by have := (HFL.out wb T4.out.fw).2; have := HPB.out; omega
            have hTW : tb ≠ wb := T4.out.boxes.2.1
            have eB0 : WB.cell? ⟨vb, 0, none⟩ = some (.string xs) := (World.cell?_of_block (a := ⟨vb, 0, none⟩) (GBH.out.block vb (by show vb < (Y.alloc _).heap.size; rw [alloc_size]; omega) (fun e => by have := Option.some.inj e; omega))).trans (((below_box Y _).drew.cell (p := ⟨vb, 0, none⟩) lv1).trans y0)
            have eB1 : WB.cell? ⟨vb, 1, none⟩ = some (.int .i64 xv) := (World.cell?_of_block (a := ⟨vb, 1, none⟩) (GBH.out.block vb (by show vb < (Y.alloc _).heap.size; rw [alloc_size]; omega) (fun e => by have := Option.some.inj e; omega))).trans (((below_box Y _).drew.cell (p := ⟨vb, 1, none⟩) lv1).trans y1)
            have eB2 : WB.cell? ⟨pb, 0, none⟩ = some (.int .i64 (xt : Int)) := (World.cell?_of_block (a := ⟨pb, 0, none⟩) (GBH.out.block pb (by show pb < (Y.alloc _).heap.size; rw [alloc_size]; omega) (fun e => by have := Option.some.inj e; omega))).trans (((below_box Y _).drew.cell (p := ⟨pb, 0, none⟩) lv2).trans y2)
            have eB3 : WB.cell? ⟨pb, 1, none⟩ = some (.int .i64 (xi : Int)) := (World.cell?_of_block (a := ⟨pb, 1, none⟩) (GBH.out.block pb (by show pb < (Y.alloc _).heap.size; rw [alloc_size]; omega) (fun e => by have := Option.some.inj e; omega))).trans (((below_box Y _).drew.cell (p := ⟨pb, 1, none⟩) lv2).trans y3)
            have eB4 : WB.cell? ⟨tb, 3, none⟩ = some (.map (some wb)) := (World.cell?_of_block (a := ⟨tb, 3, none⟩) (GBH.out.block tb (by show tb < (Y.alloc _).heap.size; rw [alloc_size]; omega) (fun e => hTW (Option.some.inj e)))).trans (((below_box Y _).drew.cell (p := ⟨tb, 3, none⟩) lv4).trans c3)
            clear GBH hTW
            go_upto_region 8 with fail
            go_region_held3 (fun w' => w'.cell? ⟨vb, 0, none⟩ = some (.string xs) ∧ w'.cell? ⟨vb, 1, none⟩ = some (.int .i64 xv) ∧ w'.cell? ⟨pb, 0, none⟩ = some (.int .i64 (xt : Int)) ∧ w'.cell? ⟨pb, 1, none⟩ = some (.int .i64 (xi : Int)) ∧ w'.cell? ⟨tb, 3, none⟩ = some (.map (some wb))) (go_keep)
              ((refine step_append_lies WB rfl (.tmp 59) (.tmp 61) 51 rfl B 54 i0 _ 2 16 Try.underlying51 HI0.out HZ0.out HZ1.out HZ2.out rfl (by decide) (.slice ya wl yc) wl (wrC (writersN N xs xv)) (by simp [Act.eval, Act.put]) OB.out ⟨Y.heap.size, 0, none⟩ 1 1 [.int .i64 (xt : Int), .int .i64 (xi : Int)] (by simp [Act.eval, Act.put]) rfl NB.out XN.out (by decide) (by unfold maxLen; omega) (by omega) BBs.out WB.heap.size rfl ?_; intro g cap w4 hown4 hgrow hat hglt; have w4c0 : w4.cell? ⟨vb, 0, none⟩ = some (.string xs) := (World.cell?_of_block (a := ⟨vb, 0, none⟩) (hgrow.block vb (by rw [EQ2.out]; omega) (fun e => by have := RF.out vb e.symm; omega))).trans eB0; have w4c1 : w4.cell? ⟨vb, 1, none⟩ = some (.int .i64 xv) := (World.cell?_of_block (a := ⟨vb, 1, none⟩) (hgrow.block vb (by rw [EQ2.out]; omega) (fun e => by have := RF.out vb e.symm; omega))).trans eB1; have w4c2 : w4.cell? ⟨pb, 0, none⟩ = some (.int .i64 (xt : Int)) := (World.cell?_of_block (a := ⟨pb, 0, none⟩) (hgrow.block pb (by rw [EQ2.out]; omega) (fun e => by have := RF.out pb e.symm; omega))).trans eB2; have w4c3 : w4.cell? ⟨pb, 1, none⟩ = some (.int .i64 (xi : Int)) := (World.cell?_of_block (a := ⟨pb, 1, none⟩) (hgrow.block pb (by rw [EQ2.out]; omega) (fun e => by have := RF.out pb e.symm; omega))).trans eB3; have w4c4 : w4.cell? ⟨tb, 3, none⟩ = some (.map (some wb)) := (World.cell?_of_block (a := ⟨tb, 3, none⟩) (hgrow.block tb (by rw [EQ2.out]; omega) (fun e => RT.out e.symm))).trans eB4; obtain ⟨w3, ES, T5', G5'⟩ := KB2.out g cap w4 hown4 hgrow hat hglt; have w3c0 : w3.cell? ⟨vb, 0, none⟩ = some (.string xs) := (World.cell?_of_block (a := ⟨vb, 0, none⟩) (G5'.block vb lv1 (fun e => by have := (HFL.out _ e).2; have := HPB.out; omega))).trans y0; have w3c1 : w3.cell? ⟨vb, 1, none⟩ = some (.int .i64 xv) := (World.cell?_of_block (a := ⟨vb, 1, none⟩) (G5'.block vb lv1 (fun e => by have := (HFL.out _ e).2; have := HPB.out; omega))).trans y1; have w3c2 : w3.cell? ⟨pb, 0, none⟩ = some (.int .i64 (xt : Int)) := (World.cell?_of_block (a := ⟨pb, 0, none⟩) (G5'.block pb lv2 (fun e => by have := (HFL.out _ e).2; have := HPB.out; omega))).trans y2; have w3c3 : w3.cell? ⟨pb, 1, none⟩ = some (.int .i64 (xi : Int)) := (World.cell?_of_block (a := ⟨pb, 1, none⟩) (G5'.block pb lv2 (fun e => by have := (HFL.out _ e).2; have := HPB.out; omega))).trans y3; have w3c4 : w3.cell? ⟨tb, 3, none⟩ = some (.map (some wb)) := T5'.c.2.2.2.1; have T5 := hid T5'; have G5 := hid G5'; clear hown4 hgrow hat hglt T5' G5'))
            have z5 : w3.cell? ⟨pb + 1, 1, none⟩ = some (.string xs) := (World.cell?_of_block (a := ⟨pb + 1, 1, none⟩) (G5.out.block (pb + 1) lv3 (fun e => by have := (HFL.out _ e).2; have := HPB.out; omega))).trans y4
            obtain ⟨d0, d1, d2, d3, d4, d5⟩ := T5.out.c
            obtain ⟨W9, U9, T6', G9'⟩ := (show Tb B w3.drew tb kb wb lb tv kv (wide F Y w3) (n + 2) false (N ++ [(xt, xi, xk, xs, xv, xl, xh, xn)]) (N ++ [(xt, xi, xk, xs, xv, xl, xh, xn)]) N from T5.out.later (Below.refl _ _).drew).putL (xt, xi, xk, xs, xv, xl, xh, xn) HS.out (by omega) ht HWT.out
            unfold parV at U9
            have FIN : Hid (NPost B w tb kb wb lb tv kv F n N (xt, xi, xk, xs, xv, xl, xh, xn) (.returned (.tuple #[])) W9) := npost_of (u' := false) (F' := wide F Y w3) (m := n + 3) HUN.out T6' (Nat.le_refl _) (fun b hb => by
                have h1 : w3.heap.size ≤ W9.heap.size := G9'.size
                have h2 := GY.out.size
                rcases hb with hb | hb
                · exact .inl hb
                · exact .inr ⟨by omega, by omega⟩)
              ((GY.out.trans (G5.out.mono (fun _ _ h => .inl h))).trans ((Gro.of_below (P := wide F w w3) (Below.refl _ w3).drew).trans ((Gro.of_grown (P := fun b => b = lb) G9' rfl).mono (fun i _ e => .inl (.inl (e ▸ T4.out.fl)))))) HB.out HFL.out
            clear T6' G9' d0 d1 d2 d3 d5 w3c0 w3c1 w3c4 w4c0 w4c1 w4c2 w4c3 w4c4 eB0 eB1 eB2 eB3 eB4 y0 y1 y2 y3 y4 ES
            go_upto_region 9 with fail
            go_region
            go_end0
            exact FIN.out
    · have hk1 : (kindN N xs == 0) = false := by simpa using hk
      obtain ⟨kx, hkx⟩ : ∃ kx, kindN N xs = kx := ⟨_, rfl⟩
      rw [hkx] at LK hk1
      have T2 : Hid (Tb B W.drew tb kb wb lb tv kv F (n + 1) u (N ++ [(xt, xi, xk, xs, xv, xl, xh, xn)]) N N) := ((T1.out.later (Below.refl _ _).drew).skipK _ (.inr hk)).wider (fun _ h => h) (fun b hb => T1.out.flt b hb) (Nat.le_succ _)
      have VS : Hid (pb + 2 ≤ W.drew.heap.size) := by show pb + 2 ≤ W.heap.size; have := HWS.out; omega
      have GV : Hid (Gro F w W.drew) := Gro.of_below (B1.out.trans (Below.refl _ _).drew)
      have hkx0 : ¬ kx = 0 := by rw [← hkx]; exact hk
      clear hk hkx hkbp
      go_wp2_with (go_at_call 57; refine (TH.out _).mono ?_; rintro e w' ⟨rfl, rfl⟩; rw [show thing xk = tg from HTG.out])
      go_region
      have q0 : W.drew.cell? ⟨pb, 0, none⟩ = some (.int .i64 (xt : Int)) := p0
      have q1 : W.drew.cell? ⟨pb, 1, none⟩ = some (.int .i64 (xi : Int)) := p1
      have r0 : W.drew.cell? ⟨pb + 1, 0, none⟩ = some (.int .i64 xk) := o0
      have r1 : W.drew.cell? ⟨pb + 1, 1, none⟩ = some (.string xs) := o1
      have r2 : W.drew.cell? ⟨pb + 1, 2, none⟩ = some (.int .i64 xv) := o2
      clear LK p0 p1 o0 o1 o2 c2
      generalize W.drew = V at *
      obtain ⟨vb, hvb⟩ : ∃ vb, V.heap.size = vb := ⟨_, rfl⟩
      have HVB := hid hvb
      have hvl : pb + 2 ≤ vb := by rw [← hvb]; exact VS.out
      clear hvb
      cases hw : isW xk with
      | false =>
        have HWF := hid hw
        clear hw
        have FIN : Hid (NPost B w tb kb wb lb tv kv F n N (xt, xi, xk, xs, xv, xl, xh, xn) (.returned (.tuple #[])) V) := npost_of (u' := u) (F' := F) (m := n + 1) (HU.out.trans ⟨fun q => (uniq_snoc _ _).2 ⟨q, fun c => absurd (show isW xk = true from c) (by rw [HWF.out]; decide)⟩, fun q => ((uniq_snoc _ _).1 q).1⟩) (T2.out.skipW _ HWF.out) (by omega) (fun b hb => .inl hb) GV.out HB.out HFL.out
        go_wp2_with (go_at_call 58; refine (WR.out _).mono ?_; rintro e w' ⟨rfl, rfl⟩; rw [HWF.out])
        exact bodyPost_ret (results_none rfl _ _ _) rfl FIN.out
      | true =>
        have HWT := hid hw
        clear hw
        go_upto_region 6 with (go_at_call 58; refine (WR.out _).mono ?_; rintro e w' ⟨rfl, rfl⟩; rw [HWT.out])
        go_upto_region 7 with fail
        rw [show V.heap.size = vb from HVB.out]
        obtain ⟨X, hX⟩ : ∃ X, V.alloc (.cells #[.string xs, .int .i64 xv] 107) = X := ⟨_, rfl⟩
        have BX : Hid (Below V.heap.size V X) := by rw [← hX]; exact below_box V _
        have T3 : Hid (Tb B X tb kb wb lb tv kv F (n + 1) u (N ++ [(xt, xi, xk, xs, xv, xl, xh, xn)]) N N) := T2.out.later BX.out
        have hXs : X.heap.size = vb + 1 := by rw [← hX]; simp; exact HVB.out
        have v0 : X.cell? ⟨vb, 0, none⟩ = some (.string xs) := by rw [← hX, ← show V.heap.size = vb from HVB.out]; simp
        have v1 : X.cell? ⟨vb, 1, none⟩ = some (.int .i64 xv) := by rw [← hX, ← show V.heap.size = vb from HVB.out]; simp
        have s0 := (BX.out.cell (p := ⟨pb, 0, none⟩) (by show pb < V.heap.size; have := VS.out; omega)).trans q0
        have s1 := (BX.out.cell (p := ⟨pb, 1, none⟩) (by show pb < V.heap.size; have := VS.out; omega)).trans q1
        have t1 := (BX.out.cell (p := ⟨pb + 1, 1, none⟩) (by show pb + 1 < V.heap.size; have := VS.out; omega)).trans r1
        have GX : Hid (Gro F w X) := GV.out.trans (Gro.of_below BX.out)
        rw [hX]
        have HXS := hid hXs
        clear hX T2 q0 q1 r0 r1 r2 GV BX hXs
        obtain ⟨S, hS⟩ := T3.out.ws
        have HSW := hid hS
        obtain ⟨sa, sc, hsl⟩ := own_slice (hS.own xs xv)
        have HSL := hid hsl
        have LW : (Instr.lookup 61 (.map (some wb)) (verV xs xv) false).run Try.prog X.drew = .ok (S xs xv) X.drew := (hS.keep (w' := X.drew) T3.out.fw (fun _ _ => rfl) (fun _ h => h)).look xs xv HS.out HV.out
        rw [hsl] at LW
        unfold verV at LW
        obtain ⟨c0, c1, c2, c3, c4, c5⟩ := T3.out.c
        have f5 : X.frozen? ⟨tb, 5, none⟩ = false := Lib.frozen_of_heap T3.out.box 5
        have UQ := hid (uniq_snoc N (xt, xi, xk, xs, xv, xl, xh, xn))
        have hWL : ((writersN N xs xv).length : Int) ≤ 100000 := by omega
        obtain ⟨wl, hwl⟩ : ∃ wl, (writersN N xs xv).length = wl := ⟨_, rfl⟩
        have HWL := hid hwl
        rw [hwl] at LW hWL
        clear hS hsl hwl c0 c1 c2 c4 hN2
        cases u with
        | false =>
          go_region
          have HUN : Hid (false = true ↔ uniqN (N ++ [(xt, xi, xk, xs, xv, xl, xh, xn)])) := ⟨fun c => absurd c (by decide), fun c => absurd (HU.out.2 (UQ.out.1 c).1) (by decide)⟩

          have YB : ∀ p : Addr, p.block ≠ tb → (X.setCell ⟨tb, 5, none⟩ (.bool false)).drew.cell? p = X.cell? p := fun p hp => World.cell?_of_block (w := X) (show (X.setCell ⟨tb, 5, none⟩ (.bool false)).heap[p.block]? = X.heap[p.block]? from set_ne hp)
          have T4 : Hid (Tb B (X.setCell ⟨tb, 5, none⟩ (.bool false)).drew tb kb wb lb tv kv F (n + 1) false (N ++ [(xt, xi, xk, xs, xv, xl, xh, xn)]) N N) := (T3.out.mark false).later (Below.refl _ _).drew
          have GY : Hid (Gro F w (X.setCell ⟨tb, 5, none⟩ (.bool false)).drew) := GX.out.trans ⟨rfl, rfl, rfl, by simp [World.setCell, World.drew], fun b _ hb => show (X.setCell ⟨tb, 5, none⟩ (.bool false)).heap[b]? = X.heap[b]? from set_ne (fun e => hb (.inl (by rw [e]; exact T3.out.ft)))⟩
          have YS : Hid ((X.setCell ⟨tb, 5, none⟩ (.bool false)).drew.heap.size = vb + 1) := by show (X.setCell ⟨tb, 5, none⟩ (.bool false)).drew.heap.size = vb + 1; rw [← HXS.out]; simp [World.setCell, World.drew]
          have y0 := (YB ⟨vb, 0, none⟩ (by show vb ≠ tb; omega)).trans v0
          have y1 := (YB ⟨vb, 1, none⟩ (by show vb ≠ tb; omega)).trans v1
          have y2 := (YB ⟨pb, 0, none⟩ (by show pb ≠ tb; omega)).trans s0
          have y3 := (YB ⟨pb, 1, none⟩ (by show pb ≠ tb; omega)).trans s1
          have y4 := (YB ⟨pb + 1, 1, none⟩ (by show pb + 1 ≠ tb; omega)).trans t1
          clear v0 v1 s0 s1 t1 c3 c5 f5 LW YB GX T3
          generalize (X.setCell ⟨tb, 5, none⟩ (.bool false)).drew = Y at *
          obtain ⟨S2, hS2⟩ := T4.out.ws
          clear HSW HSL
          obtain ⟨ya, yc, hyl⟩ := own_slice (hS2.own xs xv)
          obtain ⟨c0, c1, c2, c3, c4, c5⟩ := T4.out.c
          obtain ⟨stB, WB, EB, GB, ZB, KB⟩ := (show Tb B ((Y.alloc (.cells #[.int .i64 (xt : Int), .int .i64 (xi : Int)] 54)).drew) tb kb wb lb tv kv F (n + 1) false (N ++ [(xt, xi, xk, xs, xv, xl, xh, xn)]) N N from T4.out.later (below_box Y _).drew).putW (hS2.keep (w' := ((Y.alloc (.cells #[.int .i64 (xt : Int), .int .i64 (xi : Int)] 54)).drew)) T4.out.fw (fun b hb => by show (Y.alloc _).heap[b]? = _; rw [alloc_at, if_neg (by have := (T4.out.flt b hb).2; omega)]) (fun _ h => h)) (xt, xi, xk, xs, xv, xl, xh, xn) HS.out (by omega) HV.out HWT.out (by have := GY.out.size; have := HB.out; show B ≤ (Y.alloc _).heap.size; rw [alloc_size]; omega)
          have OB : Hid (WB.ownsRow B 54 2 (S2 xs xv) (writersN N xs xv).length (wrC (writersN N xs xv))) := own_same (hS2.own xs xv) (fun g hg => by
            have hl := (own_block (hS2.own xs xv) hg).2.1
            have hr := T4.out.row hS2 hg
            refine (GB.block g (by show g < (Y.alloc _).heap.size; rw [alloc_size]; omega) (fun e => hr.2.2.1 (Option.some.inj e))).trans ?_
            show (Y.alloc _).heap[g]? = _
            rw [alloc_at, if_neg (by omega)])
          have NB : Hid (∀ j u, ([.int .i64 (xt : Int), .int .i64 (xi : Int)] : List Value)[j]? = some u → WB.cell? ((⟨Y.heap.size, 0, none⟩ : Addr).add j) = some u) := World.news_of_block (cs := #[.int .i64 (xt : Int), .int .i64 (xi : Int)]) (t := 54) (fr := (0, 0)) ((GB.block Y.heap.size (by show Y.heap.size < (Y.alloc _).heap.size; rw [alloc_size]; omega) (fun e => by have := Option.some.inj e; have := (T4.out.flt wb T4.out.fw).2; omega)).trans (heap_alloc_new Y _))
          have XN : Hid (∀ u ∈ ([.int .i64 (xt : Int), .int .i64 (xi : Int)] : List Value), u.oneCell' = true) := by
            intro u hu
            simp only [List.mem_cons, List.not_mem_nil, or_false] at hu
            rcases hu with rfl | rfl <;> rfl
          have BBs : Hid (B ≤ WB.heap.size) := by have := GY.out.size; have := HB.out; show B ≤ WB.heap.size; have h3 : WB.heap.size = Y.heap.size + 1 := (by rw [ZB]; exact alloc_size Y _); omega
          have EQ2 : Hid (WB.heap.size = Y.heap.size + 1) := by show WB.heap.size = _; rw [ZB]; exact alloc_size Y _
          have KB2 : Hid (∀ g cap w4, w4.ownsRow B 54 2 (.slice (some ⟨g, 0, none⟩) (wl + 1) cap) (wl + 1) (wrC (writersN N xs xv) ++ [.int .i64 (xt : Int), .int .i64 (xi : Int)]) → WB.grownBy w4 (S2 xs xv).ownBlock → ((S2 xs xv).ownBlock = some g ∨ g = WB.heap.size) → g < w4.heap.size → ∃ w3, (Instr.entryStore 61 (.map (some wb)) (.int .i64 (stB : Int)) (.slice (some ⟨g, 0, none⟩) (wl + 1) cap)).run Try.prog w4 = .ok () w3 ∧ Tb B w3 tb kb wb lb tv kv (wide F Y w3) (n + 2) false (N ++ [(xt, xi, xk, xs, xv, xl, xh, xn)]) (N ++ [(xt, xi, xk, xs, xv, xl, xh, xn)]) N ∧ Gro F Y w3) := fun g cap w4 h1 h2 h3 h4 => by
            obtain ⟨w3, e1, e2, e3⟩ := KB WB w4 (.slice (some ⟨g, 0, none⟩) (wl + 1) cap) g (Below.refl _ _) h2 rfl (by rcases h3 with h3 | h3; exact .inl h3; exact .inr (by omega)) h4 (by rw [wrC_append]; have := HWL.out; rw [show (writersN N xs xv).length = wl from this]; exact h1)
            have hw : ∀ b, wide F ((Y.alloc (.cells #[.int .i64 (xt : Int), .int .i64 (xi : Int)] 54)).drew) w3 b → wide F Y w3 b := fun b hb => by
              rcases hb with hb | hb
              · exact .inl hb
              · exact .inr ⟨by have h3 : (Y.alloc (.cells #[.int .i64 (xt : Int), .int .i64 (xi : Int)] 54)).heap.size ≤ b := hb.1; rw [alloc_size] at h3; omega, hb.2⟩
            have hgr : Gro F Y w3 := (Gro.of_below (below_box Y _).drew).trans (e3.mono (fun _ _ h => .inl h))
            exact ⟨w3, e1, e2.wider hw (fun b hb => by
              rcases hb with hb | hb
              · exact ⟨(T4.out.flt b hb).1, by have := (T4.out.flt b hb).2; have := hgr.size; omega⟩
              · exact ⟨by have := GY.out.size; have := HB.out; omega, hb.2⟩) (by omega), hgr⟩
          rw [hyl] at EB OB KB2
          rw [show (writersN N xs xv).length = wl from HWL.out] at EB OB KB2
          unfold verV goInt at EB
          have GBH := hid GB
          have RF : Hid (∀ g, (Value.slice ya wl yc).ownBlock = some g → g < pb) := fun g hg => by have h1 := HFL.out g (hS2.foot xs xv g (by rw [hyl, show (writersN N xs xv).length = wl from HWL.out]; exact hg)); have := HPB.out; omega
          have RT : Hid ((Value.slice ya wl yc).ownBlock ≠ some tb) := fun e => (T4.out.row hS2 (s := xs) (v := xv) (by rw [hyl, show (writersN N xs xv).length = wl from HWL.out]; exact e)).1 rfl
          clear hS2 hyl GB ZB KB c0 c1 c2 c4 c5
          have lv1 : vb < Y.heap.size := by rw [YS.out]; omega
          have lv2 : pb < Y.heap.size := by rw [YS.out]; omega
          have lv3 : pb + 1 < Y.heap.size := by rw [YS.out]; omega
          have lv4 : tb < Y.heap.size := by rw [YS.out]; omega
          have hwbp : wb < pb := by have := (HFL.out wb T4.out.fw).2; have := HPB.out; omega
          have hTW : tb ≠ wb := T4.out.boxes.2.1
          have eB0 : WB.cell? ⟨vb, 0, none⟩ = some (.string xs) := (World.cell?_of_block (a := ⟨vb, 0, none⟩) (GBH.out.block vb (by show vb < (Y.alloc _).heap.size; rw [alloc_size]; omega) (fun e => by have := Option.some.inj e; omega))).trans (((below_box Y _).drew.cell (p := ⟨vb, 0, none⟩) lv1).trans y0)
          have eB1 : WB.cell? ⟨vb, 1, none⟩ = some (.int .i64 xv) := (World.cell?_of_block (a := ⟨vb, 1, none⟩) (GBH.out.block vb (by show vb < (Y.alloc _).heap.size; rw [alloc_size]; omega) (fun e => by have := Option.some.inj e; omega))).trans (((below_box Y _).drew.cell (p := ⟨vb, 1, none⟩) lv1).trans y1)
          have eB2 : WB.cell? ⟨pb, 0, none⟩ = some (.int .i64 (xt : Int)) := (World.cell?_of_block (a := ⟨pb, 0, none⟩) (GBH.out.block pb (by show pb < (Y.alloc _).heap.size; rw [alloc_size]; omega) (fun e => by have := Option.some.inj e; omega))).trans (((below_box Y _).drew.cell (p := ⟨pb, 0, none⟩) lv2).trans y2)
          have eB3 : WB.cell? ⟨pb, 1, none⟩ = some (.int .i64 (xi : Int)) := (World.cell?_of_block (a := ⟨pb, 1, none⟩) (GBH.out.block pb (by show pb < (Y.alloc _).heap.size; rw [alloc_size]; omega) (fun e => by have := Option.some.inj e; omega))).trans (((below_box Y _).drew.cell (p := ⟨pb, 1, none⟩) lv2).trans y3)
          have eB4 : WB.cell? ⟨tb, 3, none⟩ = some (.map (some wb)) := (World.cell?_of_block (a := ⟨tb, 3, none⟩) (GBH.out.block tb (by show tb < (Y.alloc _).heap.size; rw [alloc_size]; omega) (fun e => hTW (Option.some.inj e)))).trans (((below_box Y _).drew.cell (p := ⟨tb, 3, none⟩) lv4).trans c3)
          clear GBH hTW
          go_upto_region 8 with fail
          go_region_held3 (fun w' => w'.cell? ⟨vb, 0, none⟩ = some (.string xs) ∧ w'.cell? ⟨vb, 1, none⟩ = some (.int .i64 xv) ∧ w'.cell? ⟨pb, 0, none⟩ = some (.int .i64 (xt : Int)) ∧ w'.cell? ⟨pb, 1, none⟩ = some (.int .i64 (xi : Int)) ∧ w'.cell? ⟨tb, 3, none⟩ = some (.map (some wb))) (go_keep)
            ((refine step_append_lies WB rfl (.tmp 59) (.tmp 61) 51 rfl B 54 i0 _ 2 16 Try.underlying51 HI0.out HZ0.out HZ1.out HZ2.out rfl (by decide) (.slice ya wl yc) wl (wrC (writersN N xs xv)) (by simp [Act.eval, Act.put]) OB.out ⟨Y.heap.size, 0, none⟩ 1 1 [.int .i64 (xt : Int), .int .i64 (xi : Int)] (by simp [Act.eval, Act.put]) rfl NB.out XN.out (by decide) (by unfold maxLen; omega) (by omega) BBs.out WB.heap.size rfl ?_; intro g cap w4 hown4 hgrow hat hglt; have w4c0 : w4.cell? ⟨vb, 0, none⟩ = some (.string xs) := (World.cell?_of_block (a := ⟨vb, 0, none⟩) (hgrow.block vb (by rw [EQ2.out]; omega) (fun e => by have := RF.out vb e.symm; omega))).trans eB0; have w4c1 : w4.cell? ⟨vb, 1, none⟩ = some (.int .i64 xv) := (World.cell?_of_block (a := ⟨vb, 1, none⟩) (hgrow.block vb (by rw [EQ2.out]; omega) (fun e => by have := RF.out vb e.symm; omega))).trans eB1; have w4c2 : w4.cell? ⟨pb, 0, none⟩ = some (.int .i64 (xt : Int)) := (World.cell?_of_block (a := ⟨pb, 0, none⟩) (hgrow.block pb (by rw [EQ2.out]; omega) (fun e => by have := RF.out pb e.symm; omega))).trans eB2; have w4c3 : w4.cell? ⟨pb, 1, none⟩ = some (.int .i64 (xi : Int)) := (World.cell?_of_block (a := ⟨pb, 1, none⟩) (hgrow.block pb (by rw [EQ2.out]; omega) (fun e => by have := RF.out pb e.symm; omega))).trans eB3; have w4c4 : w4.cell? ⟨tb, 3, none⟩ = some (.map (some wb)) := (World.cell?_of_block (a := ⟨tb, 3, none⟩) (hgrow.block tb (by rw [EQ2.out]; omega) (fun e => RT.out e.symm))).trans eB4; obtain ⟨w3, ES, T5', G5'⟩ := KB2.out g cap w4 hown4 hgrow hat hglt; have w3c0 : w3.cell? ⟨vb, 0, none⟩ = some (.string xs) := (World.cell?_of_block (a := ⟨vb, 0, none⟩) (G5'.block vb lv1 (fun e => by have := (HFL.out _ e).2; have := HPB.out; omega))).trans y0; have w3c1 : w3.cell? ⟨vb, 1, none⟩ = some (.int .i64 xv) := (World.cell?_of_block (a := ⟨vb, 1, none⟩) (G5'.block vb lv1 (fun e => by have := (HFL.out _ e).2; have := HPB.out; omega))).trans y1; have w3c2 : w3.cell? ⟨pb, 0, none⟩ = some (.int .i64 (xt : Int)) := (World.cell?_of_block (a := ⟨pb, 0, none⟩) (G5'.block pb lv2 (fun e => by have := (HFL.out _ e).2; have := HPB.out; omega))).trans y2; have w3c3 : w3.cell? ⟨pb, 1, none⟩ = some (.int .i64 (xi : Int)) := (World.cell?_of_block (a := ⟨pb, 1, none⟩) (G5'.block pb lv2 (fun e => by have := (HFL.out _ e).2; have := HPB.out; omega))).trans y3; have w3c4 : w3.cell? ⟨tb, 3, none⟩ = some (.map (some wb)) := T5'.c.2.2.2.1; have T5 := hid T5'; have G5 := hid G5'; clear hown4 hgrow hat hglt T5' G5'))
          have z5 : w3.cell? ⟨pb + 1, 1, none⟩ = some (.string xs) := (World.cell?_of_block (a := ⟨pb + 1, 1, none⟩) (G5.out.block (pb + 1) lv3 (fun e => by have := (HFL.out _ e).2; have := HPB.out; omega))).trans y4
          obtain ⟨d0, d1, d2, d3, d4, d5⟩ := T5.out.c
          obtain ⟨W9, U9, T6', G9'⟩ := (show Tb B w3.drew tb kb wb lb tv kv (wide F Y w3) (n + 2) false (N ++ [(xt, xi, xk, xs, xv, xl, xh, xn)]) (N ++ [(xt, xi, xk, xs, xv, xl, xh, xn)]) N from T5.out.later (Below.refl _ _).drew).putL (xt, xi, xk, xs, xv, xl, xh, xn) HS.out (by omega) ht HWT.out
          unfold parV at U9
          have FIN : Hid (NPost B w tb kb wb lb tv kv F n N (xt, xi, xk, xs, xv, xl, xh, xn) (.returned (.tuple #[])) W9) := npost_of (u' := false) (F' := wide F Y w3) (m := n + 3) HUN.out T6' (Nat.le_refl _) (fun b hb => by
              have h1 : w3.heap.size ≤ W9.heap.size := G9'.size
              have h2 := GY.out.size
              rcases hb with hb | hb
              · exact .inl hb
              · exact .inr ⟨by omega, by omega⟩)
            ((GY.out.trans (G5.out.mono (fun _ _ h => .inl h))).trans ((Gro.of_below (P := wide F w w3) (Below.refl _ w3).drew).trans ((Gro.of_grown (P := fun b => b = lb) G9' rfl).mono (fun i _ e => .inl (.inl (e ▸ T4.out.fl)))))) HB.out HFL.out
          clear T6' G9' d0 d1 d2 d3 d5 w3c0 w3c1 w3c4 w4c0 w4c1 w4c2 w4c3 w4c4 eB0 eB1 eB2 eB3 eB4 y0 y1 y2 y3 y4 ES
          go_upto_region 9 with fail
          go_region
          go_end0
          exact FIN.out
        | true =>
          by_cases hw0 : wl = 0
          · have hw1 : ((wl : Int) == 0) = true := by simp [hw0]
            have HW0 := hid hw0
            clear hw0
            go_region
            have HUN : Hid (true = true ↔ uniqN (N ++ [(xt, xi, xk, xs, xv, xl, xh, xn)])) := ⟨fun _ => UQ.out.2 ⟨HU.out.1 rfl, fun _ => List.length_eq_zero_iff.1 (HWL.out.trans HW0.out)⟩, fun _ => rfl⟩

            have YB : ∀ p : Addr, p.block ≠ tb → (X.setCell ⟨tb, 5, none⟩ (.bool true)).drew.cell? p = X.cell? p := fun p hp => World.cell?_of_block (w := X) (show (X.setCell ⟨tb, 5, none⟩ (.bool true)).heap[p.block]? = X.heap[p.block]? from set_ne hp)
            have T4 : Hid (Tb B (X.setCell ⟨tb, 5, none⟩ (.bool true)).drew tb kb wb lb tv kv F (n + 1) true (N ++ [(xt, xi, xk, xs, xv, xl, xh, xn)]) N N) := (T3.out.mark true).later (Below.refl _ _).drew
            have GY : Hid (Gro F w (X.setCell ⟨tb, 5, none⟩ (.bool true)).drew) := GX.out.trans ⟨rfl, rfl, rfl, by simp [World.setCell, World.drew], fun b _ hb => show (X.setCell ⟨tb, 5, none⟩ (.bool true)).heap[b]? = X.heap[b]? from set_ne (fun e => hb (.inl (by rw [e]; exact T3.out.ft)))⟩
            have YS : Hid ((X.setCell ⟨tb, 5, none⟩ (.bool true)).drew.heap.size = vb + 1) := by show (X.setCell ⟨tb, 5, none⟩ (.bool true)).drew.heap.size = vb + 1; rw [← HXS.out]; simp [World.setCell, World.drew]
            have y0 := (YB ⟨vb, 0, none⟩ (by show vb ≠ tb; omega)).trans v0
            have y1 := (YB ⟨vb, 1, none⟩ (by show vb ≠ tb; omega)).trans v1
            have y2 := (YB ⟨pb, 0, none⟩ (by show pb ≠ tb; omega)).trans s0
            have y3 := (YB ⟨pb, 1, none⟩ (by show pb ≠ tb; omega)).trans s1
            have y4 := (YB ⟨pb + 1, 1, none⟩ (by show pb + 1 ≠ tb; omega)).trans t1
            clear v0 v1 s0 s1 t1 c3 c5 f5 LW YB GX T3
            generalize (X.setCell ⟨tb, 5, none⟩ (.bool true)).drew = Y at *
            obtain ⟨S2, hS2⟩ := T4.out.ws
            clear HSW HSL
            obtain ⟨ya, yc, hyl⟩ := own_slice (hS2.own xs xv)
            obtain ⟨c0, c1, c2, c3, c4, c5⟩ := T4.out.c
            obtain ⟨stB, WB, EB, GB, ZB, KB⟩ := (show Tb B ((Y.alloc (.cells #[.int .i64 (xt : Int), .int .i64 (xi : Int)] 54)).drew) tb kb wb lb tv kv F (n + 1) true (N ++ [(xt, xi, xk, xs, xv, xl, xh, xn)]) N N from T4.out.later (below_box Y _).drew).putW (hS2.keep (w' := ((Y.alloc (.cells #[.int .i64 (xt : Int), .int .i64 (xi : Int)] 54)).drew)) T4.out.fw (fun b hb => by show (Y.alloc _).heap[b]? = _; rw [alloc_at, if_neg (by have := (T4.out.flt b hb).2; omega)]) (fun _ h => h)) (xt, xi, xk, xs, xv, xl, xh, xn) HS.out (by omega) HV.out HWT.out (by have := GY.out.size; have := HB.out; show B ≤ (Y.alloc _).heap.size; rw [alloc_size]; omega)
            have OB : Hid (WB.ownsRow B 54 2 (S2 xs xv) (writersN N xs xv).length (wrC (writersN N xs xv))) := own_same (hS2.own xs xv) (fun g hg => by
              have hl := (own_block (hS2.own xs xv) hg).2.1
              have hr := T4.out.row hS2 hg
              refine (GB.block g (by show g < (Y.alloc _).heap.size; rw [alloc_size]; omega) (fun e => hr.2.2.1 (Option.some.inj e))).trans ?_
              show (Y.alloc _).heap[g]? = _
              rw [alloc_at, if_neg (by omega)])
            have NB : Hid (∀ j u, ([.int .i64 (xt : Int), .int .i64 (xi : Int)] : List Value)[j]? = some u → WB.cell? ((⟨Y.heap.size, 0, none⟩ : Addr).add j) = some u) := World.news_of_block (cs := #[.int .i64 (xt : Int), .int .i64 (xi : Int)]) (t := 54) (fr := (0, 0)) ((GB.block Y.heap.size (by show Y.heap.size < (Y.alloc _).heap.size; rw [alloc_size]; omega) (fun e => by have := Option.some.inj e; have := (T4.out.flt wb T4.out.fw).2; omega)).trans (heap_alloc_new Y _))
            have XN : Hid (∀ u ∈ ([.int .i64 (xt : Int), .int .i64 (xi : Int)] : List Value), u.oneCell' = true) := by
              intro u hu
              simp only [List.mem_cons, List.not_mem_nil, or_false] at hu
              rcases hu with rfl | rfl <;> rfl
            have BBs : Hid (B ≤ WB.heap.size) := by have := GY.out.size; have := HB.out; show B ≤ WB.heap.size; have h3 : WB.heap.size = Y.heap.size + 1 := (by rw [ZB]; exact alloc_size Y _); omega
            have EQ2 : Hid (WB.heap.size = Y.heap.size + 1) := by show WB.heap.size = _; rw [ZB]; exact alloc_size Y _
            have KB2 : Hid (∀ g cap w4, w4.ownsRow B 54 2 (.slice (some ⟨g, 0, none⟩) (wl + 1) cap) (wl + 1) (wrC (writersN N xs xv) ++ [.int .i64 (xt : Int), .int .i64 (xi : Int)]) → WB.grownBy w4 (S2 xs xv).ownBlock → ((S2 xs xv).ownBlock = some g ∨ g = WB.heap.size) → g < w4.heap.size → ∃ w3, (Instr.entryStore 61 (.map (some wb)) (.int .i64 (stB : Int)) (.slice (some ⟨g, 0, none⟩) (wl + 1) cap)).run Try.prog w4 = .ok () w3 ∧ Tb B w3 tb kb wb lb tv kv (wide F Y w3) (n + 2) true (N ++ [(xt, xi, xk, xs, xv, xl, xh, xn)]) (N ++ [(xt, xi, xk, xs, xv, xl, xh, xn)]) N ∧ Gro F Y w3) := fun g cap w4 h1 h2 h3 h4 => by
              obtain ⟨w3, e1, e2, e3⟩ := KB WB w4 (.slice (some ⟨g, 0, none⟩) (wl + 1) cap) g (Below.refl _ _) h2 rfl (by rcases h3 with h3 | h3; exact .inl h3; exact .inr (by omega)) h4 (by rw [wrC_append]; have := HWL.out; rw [show (writersN N xs xv).length = wl from this]; exact h1)
              have hw : ∀ b, wide F ((Y.alloc (.cells #[.int .i64 (xt : Int), .int .i64 (xi : Int)] 54)).drew) w3 b → wide F Y w3 b := fun b hb => by
                rcases hb with hb | hb
                · exact .inl hb
                · exact .inr ⟨by have h3 : (Y.alloc (.cells #[.int .i64 (xt : Int), .int .i64 (xi : Int)] 54)).heap.size ≤ b := hb.1; rw [alloc_size] at h3; omega, hb.2⟩
              have hgr : Gro F Y w3 := (Gro.of_below (below_box Y _).drew).trans (e3.mono (fun _ _ h => .inl h))
              exact ⟨w3, e1, e2.wider hw (fun b hb => by
                rcases hb with hb | hb
                · exact ⟨(T4.out.flt b hb).1, by have := (T4.out.flt b hb).2; have := hgr.size; omega⟩
                · exact ⟨by have := GY.out.size; have := HB.out; omega, hb.2⟩) (by omega), hgr⟩
            rw [hyl] at EB OB KB2
            rw [show (writersN N xs xv).length = wl from HWL.out] at EB OB KB2
            unfold verV goInt at EB
            have GBH := hid GB
            have RF : Hid (∀ g, (Value.slice ya wl yc).ownBlock = some g → g < pb) := fun g hg => by have h1 := HFL.out g (hS2.foot xs xv g (by rw [hyl, show (writersN N xs xv).length = wl from HWL.out]; exact hg)); have := HPB.out; omega
            have RT : Hid ((Value.slice ya wl yc).ownBlock ≠ some tb) := fun e => (T4.out.row hS2 (s := xs) (v := xv) (by rw [hyl, show (writersN N xs xv).length = wl from HWL.out]; exact e)).1 rfl
            clear hS2 hyl GB ZB KB c0 c1 c2 c4 c5
            have lv1 : vb < Y.heap.size := by rw [YS.out]; omega
            have lv2 : pb < Y.heap.size := by rw [YS.out]; omega
            have lv3 : pb + 1 < Y.heap.size := by rw [YS.out]; omega
            have lv4 : tb < Y.heap.size := by rw [YS.out]; omega
            have hwbp : wb < pb := by have := (HFL.out wb T4.out.fw).2; have := HPB.out; omega
            have hTW : tb ≠ wb := T4.out.boxes.2.1
            have eB0 : WB.cell? ⟨vb, 0, none⟩ = some (.string xs) := (World.cell?_of_block (a := ⟨vb, 0, none⟩) (GBH.out.block vb (by show vb < (Y.alloc _).heap.size; rw [alloc_size]; omega) (fun e => by have := Option.some.inj e; omega))).trans (((below_box Y _).drew.cell (p := ⟨vb, 0, none⟩) lv1).trans y0)
            have eB1 : WB.cell? ⟨vb, 1, none⟩ = some (.int .i64 xv) := (World.cell?_of_block (a := ⟨vb, 1, none⟩) (GBH.out.block vb (by show vb < (Y.alloc _).heap.size; rw [alloc_size]; omega) (fun e => by have := Option.some.inj e; omega))).trans (((below_box Y _).drew.cell (p := ⟨vb, 1, none⟩) lv1).trans y1)
            have eB2 : WB.cell? ⟨pb, 0, none⟩ = some (.int .i64 (xt : Int)) := (World.cell?_of_block (a := ⟨pb, 0, none⟩) (GBH.out.block pb (by show pb < (Y.alloc _).heap.size; rw [alloc_size]; omega) (fun e => by have := Option.some.inj e; omega))).trans (((below_box Y _).drew.cell (p := ⟨pb, 0, none⟩) lv2).trans y2)
            have eB3 : WB.cell? ⟨pb, 1, none⟩ = some (.int .i64 (xi : Int)) := (World.cell?_of_block (a := ⟨pb, 1, none⟩) (GBH.out.block pb (by show pb < (Y.alloc _).heap.size; rw [alloc_size]; omega) (fun e => by have := Option.some.inj e; omega))).trans (((below_box Y _).drew.cell (p := ⟨pb, 1, none⟩) lv2).trans y3)
            have eB4 : WB.cell? ⟨tb, 3, none⟩ = some (.map (some wb)) := (World.cell?_of_block (a := ⟨tb, 3, none⟩) (GBH.out.block tb (by show tb < (Y.alloc _).heap.size; rw [alloc_size]; omega) (fun e => hTW (Option.some.inj e)))).trans (((below_box Y _).drew.cell (p := ⟨tb, 3, none⟩) lv4).trans c3)
            clear GBH hTW
            go_upto_region 8 with fail
            go_region_held3 (fun w' => w'.cell? ⟨vb, 0, none⟩ = some (.string xs) ∧ w'.cell? ⟨vb, 1, none⟩ = some (.int .i64 xv) ∧ w'.cell? ⟨pb, 0, none⟩ = some (.int .i64 (xt : Int)) ∧ w'.cell? ⟨pb, 1, none⟩ = some (.int .i64 (xi : Int)) ∧ w'.cell? ⟨tb, 3, none⟩ = some (.map (some wb))) (go_keep)
              ((refine step_append_lies WB rfl (.tmp 59) (.tmp 61) 51 rfl B 54 i0 _ 2 16 Try.underlying51 HI0.out HZ0.out HZ1.out HZ2.out rfl (by decide) (.slice ya wl yc) wl (wrC (writersN N xs xv)) (by simp [Act.eval, Act.put]) OB.out ⟨Y.heap.size, 0, none⟩ 1 1 [.int .i64 (xt : Int), .int .i64 (xi : Int)] (by simp [Act.eval, Act.put]) rfl NB.out XN.out (by decide) (by unfold maxLen; omega) (by omega) BBs.out WB.heap.size rfl ?_; intro g cap w4 hown4 hgrow hat hglt; have w4c0 : w4.cell? ⟨vb, 0, none⟩ = some (.string xs) := (World.cell?_of_block (a := ⟨vb, 0, none⟩) (hgrow.block vb (by rw [EQ2.out]; omega) (fun e => by have := RF.out vb e.symm; omega))).trans eB0; have w4c1 : w4.cell? ⟨vb, 1, none⟩ = some (.int .i64 xv) := (World.cell?_of_block (a := ⟨vb, 1, none⟩) (hgrow.block vb (by rw [EQ2.out]; omega) (fun e => by have := RF.out vb e.symm; omega))).trans eB1; have w4c2 : w4.cell? ⟨pb, 0, none⟩ = some (.int .i64 (xt : Int)) := (World.cell?_of_block (a := ⟨pb, 0, none⟩) (hgrow.block pb (by rw [EQ2.out]; omega) (fun e => by have := RF.out pb e.symm; omega))).trans eB2; have w4c3 : w4.cell? ⟨pb, 1, none⟩ = some (.int .i64 (xi : Int)) := (World.cell?_of_block (a := ⟨pb, 1, none⟩) (hgrow.block pb (by rw [EQ2.out]; omega) (fun e => by have := RF.out pb e.symm; omega))).trans eB3; have w4c4 : w4.cell? ⟨tb, 3, none⟩ = some (.map (some wb)) := (World.cell?_of_block (a := ⟨tb, 3, none⟩) (hgrow.block tb (by rw [EQ2.out]; omega) (fun e => RT.out e.symm))).trans eB4; obtain ⟨w3, ES, T5', G5'⟩ := KB2.out g cap w4 hown4 hgrow hat hglt; have w3c0 : w3.cell? ⟨vb, 0, none⟩ = some (.string xs) := (World.cell?_of_block (a := ⟨vb, 0, none⟩) (G5'.block vb lv1 (fun e => by have := (HFL.out _ e).2; have := HPB.out; omega))).trans y0; have w3c1 : w3.cell? ⟨vb, 1, none⟩ = some (.int .i64 xv) := (World.cell?_of_block (a := ⟨vb, 1, none⟩) (G5'.block vb lv1 (fun e => by have := (HFL.out _ e).2; have := HPB.out; omega))).trans y1; have w3c2 : w3.cell? ⟨pb, 0, none⟩ = some (.int .i64 (xt : Int)) := (World.cell?_of_block (a := ⟨pb, 0, none⟩) (G5'.block pb lv2 (fun e => by have := (HFL.out _ e).2; have := HPB.out; omega))).trans y2; have w3c3 : w3.cell? ⟨pb, 1, none⟩ = some (.int .i64 (xi : Int)) := (World.cell?_of_block (a := ⟨pb, 1, none⟩) (G5'.block pb lv2 (fun e => by have := (HFL.out _ e).2; have := HPB.out; omega))).trans y3; have w3c4 : w3.cell? ⟨tb, 3, none⟩ = some (.map (some wb)) := T5'.c.2.2.2.1; have T5 := hid T5'; have G5 := hid G5'; clear hown4 hgrow hat hglt T5' G5'))
            have z5 : w3.cell? ⟨pb + 1, 1, none⟩ = some (.string xs) := (World.cell?_of_block (a := ⟨pb + 1, 1, none⟩) (G5.out.block (pb + 1) lv3 (fun e => by have := (HFL.out _ e).2; have := HPB.out; omega))).trans y4
            obtain ⟨d0, d1, d2, d3, d4, d5⟩ := T5.out.c
            obtain ⟨W9, U9, T6', G9'⟩ := (show Tb B w3.drew tb kb wb lb tv kv (wide F Y w3) (n + 2) true (N ++ [(xt, xi, xk, xs, xv, xl, xh, xn)]) (N ++ [(xt, xi, xk, xs, xv, xl, xh, xn)]) N from T5.out.later (Below.refl _ _).drew).putL (xt, xi, xk, xs, xv, xl, xh, xn) HS.out (by omega) ht HWT.out
            unfold parV at U9
            have FIN : Hid (NPost B w tb kb wb lb tv kv F n N (xt, xi, xk, xs, xv, xl, xh, xn) (.returned (.tuple #[])) W9) := npost_of (u' := true) (F' := wide F Y w3) (m := n + 3) HUN.out T6' (Nat.le_refl _) (fun b hb => by
                have h1 : w3.heap.size ≤ W9.heap.size := G9'.size
                have h2 := GY.out.size
                rcases hb with hb | hb
                · exact .inl hb
                · exact .inr ⟨by omega, by omega⟩)
              ((GY.out.trans (G5.out.mono (fun _ _ h => .inl h))).trans ((Gro.of_below (P := wide F w w3) (Below.refl _ w3).drew).trans ((Gro.of_grown (P := fun b => b = lb) G9' rfl).mono (fun i _ e => .inl (.inl (e ▸ T4.out.fl)))))) HB.out HFL.out
            clear T6' G9' d0 d1 d2 d3 d5 w3c0 w3c1 w3c4 w4c0 w4c1 w4c2 w4c3 w4c4 eB0 eB1 eB2 eB3 eB4 y0 y1 y2 y3 y4 ES
            go_upto_region 9 with fail
            go_region
            go_end0
            exact FIN.out
          · have hw1 : ((wl : Int) == 0) = false := by simp; omega
            have hw2 : ¬ (wl : Int) = 0 := by omega
            go_region
            have HUN : Hid (false = true ↔ uniqN (N ++ [(xt, xi, xk, xs, xv, xl, xh, xn)])) := ⟨fun c => absurd c (by decide), fun c => absurd (show wl = 0 from by rw [← HWL.out, (UQ.out.1 c).2 HWT.out]; rfl) hw0⟩

            have YB : ∀ p : Addr, p.block ≠ tb → (X.setCell ⟨tb, 5, none⟩ (.bool false)).drew.cell? p = X.cell? p := fun p hp => World.cell?_of_block (w := X) (show (X.setCell ⟨tb, 5, none⟩ (.bool false)).heap[p.block]? = X.heap[p.block]? from set_ne hp)
            have T4 : Hid (Tb B (X.setCell ⟨tb, 5, none⟩ (.bool false)).drew tb kb wb lb tv kv F (n + 1) false (N ++ [(xt, xi, xk, xs, xv, xl, xh, xn)]) N N) := (T3.out.mark false).later (Below.refl _ _).drew
            have GY : Hid (Gro F w (X.setCell ⟨tb, 5, none⟩ (.bool false)).drew) := GX.out.trans ⟨rfl, rfl, rfl, by simp [World.setCell, World.drew], fun b _ hb => show (X.setCell ⟨tb, 5, none⟩ (.bool false)).heap[b]? = X.heap[b]? from set_ne (fun e => hb (.inl (by rw [e]; exact T3.out.ft)))⟩
            have YS : Hid ((X.setCell ⟨tb, 5, none⟩ (.bool false)).drew.heap.size = vb + 1) := by show (X.setCell ⟨tb, 5, none⟩ (.bool false)).drew.heap.size = vb + 1; rw [← HXS.out]; simp [World.setCell, World.drew]
            have y0 := (YB ⟨vb, 0, none⟩ (by show vb ≠ tb; omega)).trans v0
            have y1 := (YB ⟨vb, 1, none⟩ (by show vb ≠ tb; omega)).trans v1
            have y2 := (YB ⟨pb, 0, none⟩ (by show pb ≠ tb; omega)).trans s0
            have y3 := (YB ⟨pb, 1, none⟩ (by show pb ≠ tb; omega)).trans s1
            have y4 := (YB ⟨pb + 1, 1, none⟩ (by show pb + 1 ≠ tb; omega)).trans t1
            clear v0 v1 s0 s1 t1 c3 c5 f5 LW YB GX T3
            generalize (X.setCell ⟨tb, 5, none⟩ (.bool false)).drew = Y at *
            obtain ⟨S2, hS2⟩ := T4.out.ws
            clear HSW HSL
            obtain ⟨ya, yc, hyl⟩ := own_slice (hS2.own xs xv)
            obtain ⟨c0, c1, c2, c3, c4, c5⟩ := T4.out.c
            obtain ⟨stB, WB, EB, GB, ZB, KB⟩ := (show Tb B ((Y.alloc (.cells #[.int .i64 (xt : Int), .int .i64 (xi : Int)] 54)).drew) tb kb wb lb tv kv F (n + 1) false (N ++ [(xt, xi, xk, xs, xv, xl, xh, xn)]) N N from T4.out.later (below_box Y _).drew).putW (hS2.keep (w' := ((Y.alloc (.cells #[.int .i64 (xt : Int), .int .i64 (xi : Int)] 54)).drew)) T4.out.fw (fun b hb => by show (Y.alloc _).heap[b]? = _; rw [alloc_at, if_neg (by have := (T4.out.flt b hb).2; omega)]) (fun _ h => h)) (xt, xi, xk, xs, xv, xl, xh, xn) HS.out (by omega) HV.out HWT.out (by have := GY.out.size; have := HB.out; show B ≤ (Y.alloc _).heap.size; rw [alloc_size]; omega)
            have OB : Hid (WB.ownsRow B 54 2 (S2 xs xv) (writersN N xs xv).length (wrC (writersN N xs xv))) := own_same (hS2.own xs xv) (fun g hg => by
              have hl := (own_block (hS2.own xs xv) hg).2.1
              have hr := T4.out.row hS2 hg
              refine (GB.block g (by show g < (Y.alloc _).heap.size; rw [alloc_size]; omega) (fun e => hr.2.2.1 (Option.some.inj e))).trans ?_
              show (Y.alloc _).heap[g]? = _
              rw [alloc_at, if_neg (by omega)])
            have NB : Hid (∀ j u, ([.int .i64 (xt : Int), .int .i64 (xi : Int)] : List Value)[j]? = some u → WB.cell? ((⟨Y.heap.size, 0, none⟩ : Addr).add j) = some u) := World.news_of_block (cs := #[.int .i64 (xt : Int), .int .i64 (xi : Int)]) (t := 54) (fr := (0, 0)) ((GB.block Y.heap.size (by show Y.heap.size < (Y.alloc _).heap.size; rw [alloc_size]; omega) (fun e => by have := Option.some.inj e; have := (T4.out.flt wb T4.out.fw).2; omega)).trans (heap_alloc_new Y _))
            have XN : Hid (∀ u ∈ ([.int .i64 (xt : Int), .int .i64 (xi : Int)] : List Value), u.oneCell' = true) := by
              intro u hu
              simp only [List.mem_cons, List.not_mem_nil, or_false] at hu
              rcases hu with rfl | rfl <;> rfl
            have BBs : Hid (B ≤ WB.heap.size) := by have := GY.out.size; have := HB.out; show B ≤ WB.heap.size; have h3 : WB.heap.size = Y.heap.size + 1 := (by rw [ZB]; exact alloc_size Y _); omega
            have EQ2 : Hid (WB.heap.size = Y.heap.size + 1) := by show WB.heap.size = _; rw [ZB]; exact alloc_size Y _
            have KB2 : Hid (∀ g cap w4, w4.ownsRow B 54 2 (.slice (some ⟨g, 0, none⟩) (wl + 1) cap) (wl + 1) (wrC (writersN N xs xv) ++ [.int .i64 (xt : Int), .int .i64 (xi : Int)]) → WB.grownBy w4 (S2 xs xv).ownBlock → ((S2 xs xv).ownBlock = some g ∨ g = WB.heap.size) → g < w4.heap.size → ∃ w3, (Instr.entryStore 61 (.map (some wb)) (.int .i64 (stB : Int)) (.slice (some ⟨g, 0, none⟩) (wl + 1) cap)).run Try.prog w4 = .ok () w3 ∧ Tb B w3 tb kb wb lb tv kv (wide F Y w3) (n + 2) false (N ++ [(xt, xi, xk, xs, xv, xl, xh, xn)]) (N ++ [(xt, xi, xk, xs, xv, xl, xh, xn)]) N ∧ Gro F Y w3) := fun g cap w4 h1 h2 h3 h4 => by
              obtain ⟨w3, e1, e2, e3⟩ := KB WB w4 (.slice (some ⟨g, 0, none⟩) (wl + 1) cap) g (Below.refl _ _) h2 rfl (by rcases h3 with h3 | h3; exact .inl h3; exact .inr (by omega)) h4 (by rw [wrC_append]; have := HWL.out; rw [show (writersN N xs xv).length = wl from this]; exact h1)
              have hw : ∀ b, wide F ((Y.alloc (.cells #[.int .i64 (xt : Int), .int .i64 (xi : Int)] 54)).drew) w3 b → wide F Y w3 b := fun b hb => by
                rcases hb with hb | hb
                · exact .inl hb
                · exact .inr ⟨by have h3 : (Y.alloc (.cells #[.int .i64 (xt : Int), .int .i64 (xi : Int)] 54)).heap.size ≤ b := hb.1; rw [alloc_size] at h3; omega, hb.2⟩
              have hgr : Gro F Y w3 := (Gro.of_below (below_box Y _).drew).trans (e3.mono (fun _ _ h => .inl h))
              exact ⟨w3, e1, e2.wider hw (fun b hb => by
                rcases hb with hb | hb
                · exact ⟨(T4.out.flt b hb).1, by have := (T4.out.flt b hb).2; have := hgr.size; omega⟩
                · exact ⟨by have := GY.out.size; have := HB.out; omega, hb.2⟩) (by omega), hgr⟩
            rw [hyl] at EB OB KB2
            rw [show (writersN N xs xv).length = wl from HWL.out] at EB OB KB2
            unfold verV goInt at EB
            have GBH := hid GB
            have RF : Hid (∀ g, (Value.slice ya wl yc).ownBlock = some g → g < pb) := fun g hg => by have h1 := HFL.out g (hS2.foot xs xv g (by rw [hyl, show (writersN N xs xv).length = wl from HWL.out]; exact hg)); have := HPB.out; omega
            have RT : Hid ((Value.slice ya wl yc).ownBlock ≠ some tb) := fun e => (T4.out.row hS2 (s := xs) (v := xv) (by rw [hyl, show (writersN N xs xv).length = wl from HWL.out]; exact e)).1 rfl
            clear hS2 hyl GB ZB KB c0 c1 c2 c4 c5
            have lv1 : vb < Y.heap.size := by rw [YS.out]; omega
            have lv2 : pb < Y.heap.size := by rw [YS.out]; omega
            have lv3 : pb + 1 < Y.heap.size := by rw [YS.out]; omega
            have lv4 : tb < Y.heap.size := by rw [YS.out]; omega
            have hwbp : wb < pb := by have := (HFL.out wb T4.out.fw).2; have := HPB.out; omega
            have hTW : tb ≠ wb := T4.out.boxes.2.1
            have eB0 : WB.cell? ⟨vb, 0, none⟩ = some (.string xs) := (World.cell?_of_block (a := ⟨vb, 0, none⟩) (GBH.out.block vb (by show vb < (Y.alloc _).heap.size; rw [alloc_size]; omega) (fun e => by have := Option.some.inj e; omega))).trans (((below_box Y _).drew.cell (p := ⟨vb, 0, none⟩) lv1).trans y0)
            have eB1 : WB.cell? ⟨vb, 1, none⟩ = some (.int .i64 xv) := (World.cell?_of_block (a := ⟨vb, 1, none⟩) (GBH.out.block vb (by show vb < (Y.alloc _).heap.size; rw [alloc_size]; omega) (fun e => by have := Option.some.inj e; omega))).trans (((below_box Y _).drew.cell (p := ⟨vb, 1, none⟩) lv1).trans y1)
            have eB2 : WB.cell? ⟨pb, 0, none⟩ = some (.int .i64 (xt : Int)) := (World.cell?_of_block (a := ⟨pb, 0, none⟩) (GBH.out.block pb (by show pb < (Y.alloc _).heap.size; rw [alloc_size]; omega) (fun e => by have := Option.some.inj e; omega))).trans (((below_box Y _).drew.cell (p := ⟨pb, 0, none⟩) lv2).trans y2)
            have eB3 : WB.cell? ⟨pb, 1, none⟩ = some (.int .i64 (xi : Int)) := (World.cell?_of_block (a := ⟨pb, 1, none⟩) (GBH.out.block pb (by show pb < (Y.alloc _).heap.size; rw [alloc_size]; omega) (fun e => by have := Option.some.inj e; omega))).trans (((below_box Y _).drew.cell (p := ⟨pb, 1, none⟩) lv2).trans y3)
            have eB4 : WB.cell? ⟨tb, 3, none⟩ = some (.map (some wb)) := (World.cell?_of_block (a := ⟨tb, 3, none⟩) (GBH.out.block tb (by show tb < (Y.alloc _).heap.size; rw [alloc_size]; omega) (fun e => hTW (Option.some.inj e)))).trans (((below_box Y _).drew.cell (p := ⟨tb, 3, none⟩) lv4).trans c3)
            clear GBH hTW
            go_upto_region 8 with fail
            go_region_held3 (fun w' => w'.cell? ⟨vb, 0, none⟩ = some (.string xs) ∧ w'.cell? ⟨vb, 1, none⟩ = some (.int .i64 xv) ∧ w'.cell? ⟨pb, 0, none⟩ = some (.int .i64 (xt : Int)) ∧ w'.cell? ⟨pb, 1, none⟩ = some (.int .i64 (xi : Int)) ∧ w'.cell? ⟨tb, 3, none⟩ = some (.map (some wb))) (go_keep)
              ((refine step_append_lies WB rfl (.tmp 59) (.tmp 61) 51 rfl B 54 i0 _ 2 16 Try.underlying51 HI0.out HZ0.out HZ1.out HZ2.out rfl (by decide) (.slice ya wl yc) wl (wrC (writersN N xs xv)) (by simp [Act.eval, Act.put]) OB.out ⟨Y.heap.size, 0, none⟩ 1 1 [.int .i64 (xt : Int), .int .i64 (xi : Int)] (by simp [Act.eval, Act.put]) rfl NB.out XN.out (by decide) (by unfold maxLen; omega) (by omega) BBs.out WB.heap.size rfl ?_; intro g cap w4 hown4 hgrow hat hglt; have w4c0 : w4.cell? ⟨vb, 0, none⟩ = some (.string xs) := (World.cell?_of_block (a := ⟨vb, 0, none⟩) (hgrow.block vb (by rw [EQ2.out]; omega) (fun e => by have := RF.out vb e.symm; omega))).trans eB0; have w4c1 : w4.cell? ⟨vb, 1, none⟩ = some (.int .i64 xv) := (World.cell?_of_block (a := ⟨vb, 1, none⟩) (hgrow.block vb (by rw [EQ2.out]; omega) (fun e => by have := RF.out vb e.symm; omega))).trans eB1; have w4c2 : w4.cell? ⟨pb, 0, none⟩ = some (.int .i64 (xt : Int)) := (World.cell?_of_block (a := ⟨pb, 0, none⟩) (hgrow.block pb (by rw [EQ2.out]; omega) (fun e => by have := RF.out pb e.symm; omega))).trans eB2; have w4c3 : w4.cell? ⟨pb, 1, none⟩ = some (.int .i64 (xi : Int)) := (World.cell?_of_block (a := ⟨pb, 1, none⟩) (hgrow.block pb (by rw [EQ2.out]; omega) (fun e => by have := RF.out pb e.symm; omega))).trans eB3; have w4c4 : w4.cell? ⟨tb, 3, none⟩ = some (.map (some wb)) := (World.cell?_of_block (a := ⟨tb, 3, none⟩) (hgrow.block tb (by rw [EQ2.out]; omega) (fun e => RT.out e.symm))).trans eB4; obtain ⟨w3, ES, T5', G5'⟩ := KB2.out g cap w4 hown4 hgrow hat hglt; have w3c0 : w3.cell? ⟨vb, 0, none⟩ = some (.string xs) := (World.cell?_of_block (a := ⟨vb, 0, none⟩) (G5'.block vb lv1 (fun e => by have := (HFL.out _ e).2; have := HPB.out; omega))).trans y0; have w3c1 : w3.cell? ⟨vb, 1, none⟩ = some (.int .i64 xv) := (World.cell?_of_block (a := ⟨vb, 1, none⟩) (G5'.block vb lv1 (fun e => by have := (HFL.out _ e).2; have := HPB.out; omega))).trans y1; have w3c2 : w3.cell? ⟨pb, 0, none⟩ = some (.int .i64 (xt : Int)) := (World.cell?_of_block (a := ⟨pb, 0, none⟩) (G5'.block pb lv2 (fun e => by have := (HFL.out _ e).2; have := HPB.out; omega))).trans y2; have w3c3 : w3.cell? ⟨pb, 1, none⟩ = some (.int .i64 (xi : Int)) := (World.cell?_of_block (a := ⟨pb, 1, none⟩) (G5'.block pb lv2 (fun e => by have := (HFL.out _ e).2; have := HPB.out; omega))).trans y3; have w3c4 : w3.cell? ⟨tb, 3, none⟩ = some (.map (some wb)) := T5'.c.2.2.2.1; have T5 := hid T5'; have G5 := hid G5'; clear hown4 hgrow hat hglt T5' G5'))
            have z5 : w3.cell? ⟨pb + 1, 1, none⟩ = some (.string xs) := (World.cell?_of_block (a := ⟨pb + 1, 1, none⟩) (G5.out.block (pb + 1) lv3 (fun e => by have := (HFL.out _ e).2; have := HPB.out; omega))).trans y4
            obtain ⟨d0, d1, d2, d3, d4, d5⟩ := T5.out.c
            obtain ⟨W9, U9, T6', G9'⟩ := (show Tb B w3.drew tb kb wb lb tv kv (wide F Y w3) (n + 2) false (N ++ [(xt, xi, xk, xs, xv, xl, xh, xn)]) (N ++ [(xt, xi, xk, xs, xv, xl, xh, xn)]) N from T5.out.later (Below.refl _ _).drew).putL (xt, xi, xk, xs, xv, xl, xh, xn) HS.out (by omega) ht HWT.out
            unfold parV at U9
            have FIN : Hid (NPost B w tb kb wb lb tv kv F n N (xt, xi, xk, xs, xv, xl, xh, xn) (.returned (.tuple #[])) W9) := npost_of (u' := false) (F' := wide F Y w3) (m := n + 3) HUN.out T6' (Nat.le_refl _) (fun b hb => by
                have h1 : w3.heap.size ≤ W9.heap.size := G9'.size
                have h2 := GY.out.size
                rcases hb with hb | hb
                · exact .inl hb
                · exact .inr ⟨by omega, by omega⟩)
              ((GY.out.trans (G5.out.mono (fun _ _ h => .inl h))).trans ((Gro.of_below (P := wide F w w3) (Below.refl _ w3).drew).trans ((Gro.of_grown (P := fun b => b = lb) G9' rfl).mono (fun i _ e => .inl (.inl (e ▸ T4.out.fl)))))) HB.out HFL.out
            clear T6' G9' d0 d1 d2 d3 d5 w3c0 w3c1 w3c4 w4c0 w4c1 w4c2 w4c3 w4c4 eB0 eB1 eB2 eB3 eB4 y0 y1 y2 y3 y4 ES
            go_upto_region 9 with fail
            go_region
            go_end0
            exact FIN.out
end Go.Proofs.Ytnfbcmnlloipiaa
