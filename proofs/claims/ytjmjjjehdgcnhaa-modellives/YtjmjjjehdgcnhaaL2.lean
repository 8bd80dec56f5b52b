/-
  The walk of ModelLives.
-/
import Derived.Test.YtjmjjjehdgcnhaaL1
import Derived.Deep.RegionHeld3
namespace Go.Proofs.Ytjmjjjehdgcnhaa
set_option linter.unusedVariables false
set_option linter.unusedSimpArgs false
open Go.RowKit Go.Lib

theorem Try.infoStr : (Try.prog.info? 9).map (fun i => (i.zero, i.size, i.bytes)) = some (some (.string ⟨#[]⟩), 1, 16) := by kernel_rfl

set_option maxHeartbeats 4000000 in
set_option maxRecDepth 100000 in
theorem lives_walk (lv : Value) (key : ByteArray) (l : List (List MOp × Bool × Bool)) (w : World) (hl : DosIn Any w lv l) (hk : key.size ≤ 281474976710656) (hks : ∀ d ∈ l, ∀ o ∈ d.1, o.key.size ≤ 281474976710656) (hn : l.length ≤ 1048576) (ht : tot l l.length ≤ 1048576) :
    Calls Try.prog 3 #[lv, .string key] w fun e w' => e = .returned (.bool true) ∧ Below w.heap.size w w' := by
  obtain ⟨i0, hi0, hz0, hz1, hz2⟩ := info_parts Try.infoStr
  obtain ⟨ao, c, rfl, ⟨hby, hcap⟩, hc⟩ := hl
  have HC := hid hc
  have HI0 := hid hi0
  have HZ0 := hid hz0
  have HZ1 := hid hz1
  have HZ2 := hid hz2
  have HKS := hid hks
  have HT := hid ht
  clear hc hi0 hz0 hz1 hz2 hks
  go_enter Try.func3, Try.ntmps3
  go_wp2_with (first
    | (go_at_call 4
       refine (new_is _).mono ?_
       rintro e w1 ⟨sb, lb, rb, rfl, s1, b1⟩
       have S1 := hid s1
       have B1 := hid b1
       clear s1 b1)
    | (go_at_call 5
       refine (copy_is w.heap.size _ sb lb rb _ 0 [] (S1.out.later ((Below.refl _ w1).alloc (Nat.le_refl _) _)) (by unfold maxLen; omega) (by simp [lstM]) (by simp)).mono ?_
       rintro e w2 ⟨cb, lb2, rb2, rfl, s2, b2⟩
       have S2 := hid s2
       have B2 := hid b2
       clear s2 b2))
  have LV0 := hid (Lv.start key S1.out B1.out S2.out B2.out)
  have BW0 : Hid (Below w.heap.size w ((w2.alloc (.cells #[.slice none 0 0] 28)).alloc (.cells #[.string key] 9))) := by
    have ha1 := alloc_size w1 (.cells #[.slice none 0 0] 28)
    have hz1 := B1.out.size
    have hz2 := B2.out.size
    exact ((B1.out.trans (((Below.refl _ w1).alloc (Nat.le_refl _) _).mono hz1)).trans (B2.out.mono (by omega))).trans ((((Below.refl _ w2).alloc (Nat.le_refl _) _).alloc (by simp) _).mono (by omega))
  clear S1 B1 S2 B2
  have NM0 : Hid (Nm l 0 0 [] [] [key]) := ⟨Nat.zero_le _, Nat.zero_le _, Nat.zero_le _, by simp [tot], by simp, by simp, by simpa using hk⟩
  clear hk
  go_loopg [5, 6, 7, 8, 9, 34] l.length (fun g s x o y kv i wr => ∃ (k sb xb ob yb n : Nat) (L M : List MOp) (ks : List ByteArray), k ≤ l.length ∧ l.length - k ≤ g ∧ i = .int .i64 k ∧ s = .pointer (some ⟨sb, 0, none⟩) ∧ x = .pointer (some ⟨xb, 0, none⟩) ∧ o = .pointer (some ⟨ob, 0, none⟩) ∧ y = .pointer (some ⟨yb, 0, none⟩) ∧ (∃ ka kc, kv = .slice ka ks.length kc) ∧ Aside (Lv w.heap.size wr sb xb ob yb kv n L M ks) ∧ Aside (Below w.heap.size w wr) ∧ Aside (Nm l k n L M ks))
  case atStart => exact ⟨0, _, _, _, _, 0, [], [], [key], Nat.zero_le _, by omega, rfl, rfl, rfl, rfl, rfl, ⟨_, _, rfl⟩, LV0.out, BW0.out, NM0.out⟩
  case round =>
    rename World => wo
    clear LV0 BW0 NM0
    obtain ⟨k, sb, xb, ob, yb, n, L, M, ks, hkl, hg, rfl, rfl, rfl, rfl, rfl, ⟨ka, kc, rfl⟩, LV, BW, NM⟩ := hrel
    by_cases hlt : k < l.length
    · have hlti : (k : Int) < (l.length : Int) := by omega
      obtain ⟨ab, off, rfl, _, hrow⟩ := HC.out (by omega)
      obtain ⟨cs, _, ⟨ov, rfl, hops⟩, hcs⟩ := hrow k hlt
      have TN := hid (tot_next l k hlt)
      have TL := hid (tot_le l (k + 1) (by omega))
      have KA : Hid (∀ o ∈ (l.getD k default).1, o.key.size ≤ 281474976710656) := fun o ho => HKS.out _ (by rw [List.getD, List.getElem?_eq_getElem hlt]; exact List.getElem_mem hlt) o ho
      clear hrow HC
      generalize l.getD k default = D at *
      obtain ⟨A, bl, cp⟩ := D
      have hab := World.block_lt_of_cell? _ _ (hcs 0 ov rfl)
      have q : ∀ i u, w.cell? ⟨ab, i, none⟩ = some u → wo.cell? ⟨ab, i, none⟩ = some u := fun i u hc => (BW.out.cell (p := ⟨ab, i, none⟩) hab).trans hc
      have d0 : wo.cell? ⟨ab, off + k * 3, none⟩ = _ := q _ _ (hcs 0 _ rfl)
      have d1 := q _ _ (hcs 1 _ rfl)
      have d2 := q _ _ (hcs 2 _ rfl)
      clear hcs q
      obtain ⟨oa, oc, hov, -⟩ := id hops
      subst hov
      have HOP := hid hops
      clear hops
      have hsz := BW.out.size
      have BA : Hid (Below wo.heap.size wo (wo.alloc (.cells #[.slice oa A.length oc, .bool bl, .bool cp] 31))) := (Below.refl _ wo).alloc (Nat.le_refl _) _
      have HA : Hid ((wo.alloc (.cells #[.slice oa A.length oc, .bool bl, .bool cp] 31)).heap.size = wo.heap.size + 1) := alloc_size _ _
      have OC := hid (Tx.ops_any _ A (wo.alloc (.cells #[.slice oa A.length oc, .bool bl, .bool cp] 31)) (HOP.out.keep (keeps_below (BW.out.trans (BA.out.mono hsz))) (fun _ _ x => x)))
      simp only at d0 d1 d2
      cases cp with
      | false =>
        go_wp2_with (go_at_call 6
                     refine OC.out.mono ?_
                     rintro e w3 ⟨v3, rfl, g3, b3⟩
                     obtain ⟨a3, c3, hv3, -⟩ := id g3
                     subst hv3
                     have G3 : Hid (Tx.OpsOwn (fun b => wo.heap.size + 1 ≤ b) w3 (.slice a3 A.length c3) A) := by have := g3; rw [HA.out] at this; exact this
                     have B3 := hid b3
                     clear g3 b3
                     have hz3 : wo.heap.size + 1 ≤ w3.heap.size := by have := B3.out.size; rw [HA.out] at this; exact this
                     have HB3 : Hid (w3.heap[wo.heap.size]? = some (.cells #[.slice oa A.length oc, .bool bl, .bool false] 31 (0, 0))) := (B3.out.block wo.heap.size (by rw [HA.out]; omega)).trans (by rw [alloc_at, if_pos rfl])
                     have e0 : w3.cell? ⟨wo.heap.size, 0, none⟩ = some (.slice oa A.length oc) := Lib.cell_of_heap HB3.out 0
                     have e1 : w3.cell? ⟨wo.heap.size, 1, none⟩ = some (.bool bl) := Lib.cell_of_heap HB3.out 1
                     have e2 : w3.cell? ⟨wo.heap.size, 2, none⟩ = some (.bool false) := Lib.cell_of_heap HB3.out 2
                     have BW3 : Hid (Below wo.heap.size wo w3) := BA.out.trans (B3.out.mono (by rw [HA.out]; omega))
                     have LW := hid (Lw.plain LV.out BW3.out G3.out)
                     have WW : Hid (Below w.heap.size w w3) := BW.out.trans (BW3.out.mono hsz))
        obtain ⟨lb, rb, F, v, lo, ro, G, u, P, Q, p1, p2, hd, hk4, hbx, hgv⟩ := LW.out
        have P1 := hid p1
        have P2 := hid p2
        have HD := hid hd
        have HK4 := hid hk4
        have HGV := hid hgv
        have HBX := hid hbx
        clear p1 p2 hd hk4 hgv hbx
        have TN2 : Hid (tot l (k + 1) = tot l k + A.length) := TN.out
        have hnum : tot l k + A.length ≤ 1048576 := by have := TN2.out; have := TL.out; have := HT.out; omega
        have hnL := NM.out.hL
        have hnn := NM.out.hn
        have hbw := WW.out.size
        obtain ⟨bk, hbk⟩ : ∃ bk : Bool, (bk = true ↔ okM L A bl) := by classical exact ⟨decide (okM L A bl), by simp⟩
        have HBK := hid hbk
        clear hbk
        have hne : (bk != bk) = false := by cases bk <;> rfl
        have AP : Hid (Calls Try.prog 8 #[.pointer (some ⟨sb, 0, none⟩), .slice a3 A.length c3, .bool bl] (w3).drew fun e w' => e = .returned (.bool bk) ∧ St w.heap.size w' sb lb rb (wide F (w3) w') (n + 2 * A.length) (if bk = true then stM L A A.length else L) ∧ Gro F (w3) w') :=
          (apply_is w.heap.size (w3).drew sb lb rb F n L A (.slice a3 A.length c3) bl (P1.out.st.later (below_drewN (Below.refl _ _) 1)) WW.out.size (HGV.out.keep (fun _ _ _ => rfl) (fun b _ hb c => hb (P1.out.pf b c))) KA.out (by unfold maxLen; omega) (fun i hi => by
            have q1 := lst_len (stM L A i) (A.getD i default).key
            have q2 := st_len L A i
            omega)).mono fun e w' ⟨b, q1, q2, q3, q4⟩ => by
              have hb := bool_same q2 HBK.out
              subst hb
              exact ⟨q1, q3, ⟨q4.os, q4.tape, q4.output, q4.size, q4.block⟩⟩
        have k0 : (w3).cell? ⟨wo.heap.size, 0, none⟩ = some (.slice oa A.length oc) := e0
        have k1 : (w3).cell? ⟨wo.heap.size, 1, none⟩ = some (.bool bl) := e1
        have hbxl : wo.heap.size < (w3).heap.size := by omega
        have HOW : Hid (OpsIn (fun b => b < w.heap.size) (w3) (.slice oa A.length oc) A) := HOP.out.keep (keeps_below WW.out) (fun b hb _ => hb)
        have hxl : xb < (w3).heap.size := (P1.out.lt _ P1.out.px).2
        clear LV LW
        go_wp2_with fail
        go_region_held3 (fun w' => w'.cell? ⟨wo.heap.size, 0, none⟩ = some (.slice oa A.length oc) ∧ w'.cell? ⟨wo.heap.size, 1, none⟩ = some (.bool bl)) (go_keep) (first
          | (go_at_call 8
             refine AP.out.mono ?_
             rintro e w5 ⟨rfl, s5, g5⟩
             have S5 := hid s5
             have G5 := hid g5
             clear s5 g5
             have hz5 : (w3).heap.size ≤ w5.heap.size := G5.out.size
             have m0 : w5.cell? ⟨wo.heap.size, 0, none⟩ = some (.slice oa A.length oc) := (World.cell?_of_block (a := ⟨wo.heap.size, 0, none⟩) (G5.out.block wo.heap.size hbxl (fun c => HBX.out (P1.out.pf _ c)))).trans k0
             have m1 : w5.cell? ⟨wo.heap.size, 1, none⟩ = some (.bool bl) := (World.cell?_of_block (a := ⟨wo.heap.size, 1, none⟩) (G5.out.block wo.heap.size hbxl (fun c => HBX.out (P1.out.pf _ c)))).trans k1
             have O5 : Hid (OpsIn (fun b => b < w.heap.size) w5 (.slice oa A.length oc) A) := HOW.out.keep (fun b hb hlt => G5.out.block b hlt (fun c => by have := (P1.out.lt b (P1.out.pf b c)).1; omega)) (fun _ _ x => x)
             have V5 : Hid (OpsIn (fun b => ¬ P b) w5 (.slice a3 A.length c3) A) := HGV.out.keep (fun b hb hlt => G5.out.block b hlt (fun c => hb (P1.out.pf b c))) (fun _ _ x => x)
             have RP : Hid (Calls Try.prog 9 #[.pointer (some ⟨xb, 0, none⟩), .slice oa A.length oc, .bool bl] w5 fun e w' => ∃ v', e = .returned (.bool bk) ∧ Rst w.heap.size w' xb v' (if bk = true then stM L A A.length else L) ∧ (∀ g, v'.ownBlock = some g → v.ownBlock = some g ∨ w5.heap.size ≤ g) ∧ Gro (fun b => b = xb) w5 w') :=
               (rapply_is w.heap.size w5 xb v L A (.slice oa A.length oc) bl (P1.out.rs.keep (G5.out.block _ hxl P1.out.fx) (fun g e => G5.out.block g (P1.out.lt g (P1.out.pv g e)).2 (P1.out.fv g e).1)) (by omega) (O5.out.keep (fun _ _ _ => rfl) (fun _ _ _ => trivial)) (by omega)).mono fun e w' ⟨b, v', q1, q2, q3, q4, q5⟩ => by
                 have hb := bool_same q2 HBK.out
                 subst hb
                 exact ⟨v', q1, q3, q4, q5⟩)
          | (go_at_call 9
             refine RP.out.mono ?_
             rintro e w6 ⟨v6, rfl, s6, o6, g6⟩
             have S6 := hid s6
             have OO6 := hid o6
             have G6 := hid g6
             clear s6 o6 g6
             have hz6 : w5.heap.size ≤ w6.heap.size := G6.out.size
             have hxB : w.heap.size ≤ xb := (P1.out.lt _ P1.out.px).1
             have hxb : wo.heap.size ≠ xb := fun c => HBX.out (c ▸ P1.out.px)
             have n0 : w6.cell? ⟨wo.heap.size, 0, none⟩ = some (.slice oa A.length oc) := (World.cell?_of_block (a := ⟨wo.heap.size, 0, none⟩) (G6.out.block wo.heap.size (by omega) hxb)).trans m0
             have n1 : w6.cell? ⟨wo.heap.size, 1, none⟩ = some (.bool bl) := (World.cell?_of_block (a := ⟨wo.heap.size, 1, none⟩) (G6.out.block wo.heap.size (by omega) hxb)).trans m1
             have SO : Hid (Calls Try.prog 10 #[.slice a3 A.length c3, .slice oa A.length oc] w6 fun e w' => e = .returned (.bool true) ∧ Below w6.heap.size w6 w') :=
               (Tx.sameOps_any (S := fun b => ¬ P b) (T := fun b => b < w.heap.size) _ _ A A w6 (V5.out.keep (fun b hb hlt => G6.out.block b hlt (fun c => hb (by rw [show b = xb from c]; exact P1.out.px))) (fun _ _ x => x)) (O5.out.keep (fun b hb hlt => G6.out.block b hlt (fun c => by have c' : b = xb := c; omega)) (fun _ _ x => x))).mono fun e w' ⟨q1, q2⟩ => ⟨by rw [q1, show opsEq A A = true from allEq_refl _ opEq_refl A], q2⟩)
          | (go_at_call 10
             refine SO.out.mono ?_
             rintro e w7 ⟨rfl, b7⟩
             have B7 := hid b7
             clear b7
             have l6 : wo.heap.size < w6.heap.size := by omega
             have p0 : w7.cell? ⟨wo.heap.size, 0, none⟩ = some (.slice oa A.length oc) := (B7.out.cell (p := ⟨wo.heap.size, 0, none⟩) l6).trans n0
             have p1 : w7.cell? ⟨wo.heap.size, 1, none⟩ = some (.bool bl) := (B7.out.cell (p := ⟨wo.heap.size, 1, none⟩) l6).trans n1))
        have STP := hid (lv_step P1.out P2.out HD.out HK4.out S5.out G5.out S6.out OO6.out G6.out (by omega))
        have LV7 : Hid (Lv w.heap.size w7 sb xb ob yb (.slice ka ks.length kc) (n + 2 * A.length) (if bk = true then stM L A A.length else L) M ks) := STP.out.1.later B7.out
        have BW7 : Hid (Below w.heap.size w w7) := by
          have q := STP.out.2
          exact ⟨B7.out.os.trans (q.os.trans WW.out.os), B7.out.tape.trans (q.tape.trans WW.out.tape), B7.out.output.trans (q.output.trans WW.out.output), by have := B7.out.size; omega, fun b hb => (B7.out.block b (by omega)).trans ((q.block b (by omega) (fun c => by have := (P1.out.lt b c).1; omega)).trans (WW.out.block b hb))⟩
        have NMS : Hid (∀ ks' : List ByteArray, ks'.length = ks.length + A.length → (∀ x ∈ ks', x.size ≤ 281474976710656) → Nm l (k + 1) (n + 2 * A.length) (if bk = true then stM L A A.length else L) M ks') := fun ks' q1 q2 => NM.out.step TN2.out KA.out bk q1 q2
        have hksl := NM.out.hks
        have KK : Hid (∀ x ∈ ks, x.size ≤ 281474976710656) := NM.out.kk
        clear STP S5 G5 S6 OO6 G6 B7 m0 m1 n0 n1 k0 k1 AP RP SO O5 V5 HOW HGV P1 P2 HD HK4 HBX HBK WW hne hxl hxB hxb l6 hz5 hz6
        generalize (if bk = true then stM L A A.length else L) = L9 at *
        go_wp2_with fail
        go_loopg [9, 76] A.length (fun g kv i wr => ∃ (j : Nat) (ks' : List ByteArray), j ≤ A.length ∧ A.length - j ≤ g ∧ i = .int .i64 j ∧ (∃ a c, kv = .slice a ks'.length c) ∧ Aside (Lv w.heap.size wr sb xb ob yb kv (n + 2 * A.length) L9 M ks') ∧ Aside (Below w.heap.size w wr) ∧ Aside (ks'.length = ks.length + j ∧ ∀ x ∈ ks', x.size ≤ 281474976710656))
        case atStart => exact ⟨0, ks, Nat.zero_le _, by omega, rfl, ⟨_, _, rfl⟩, LV7.out, BW7.out, rfl, KK.out⟩
        case round =>
          clear LV7 BW7 KK
          obtain ⟨j, ks', hjl, hg2, rfl, ⟨ka2, kc2, rfl⟩, LQ, BQ, KQ⟩ := hrel
          by_cases hj : j < A.length
          · have hji : (j : Int) < (A.length : Int) := by omega
            obtain ⟨ao2, c2, hv2, _, hc2⟩ := HOP.out
            injection hv2 with f1 f2 f3
            subst f1
            subst f3
            clear f2
            obtain ⟨b2, o2, rfl, _, hrow2⟩ := hc2 (by omega)
            obtain ⟨cs2, _, ⟨lv2, rfl, hli⟩, hcc⟩ := hrow2 j hj
            obtain ⟨la, lc, hlv, -⟩ := id hli
            have KO : Hid ((A.getD j default).key.size ≤ 281474976710656) := KA.out _ (by rw [List.getD, List.getElem?_eq_getElem hj]; exact List.getElem_mem hj)
            clear hc2 hrow2 hli
            obtain ⟨LL, hLL⟩ : ∃ LL, (A.getD j default).list.length = LL := ⟨_, rfl⟩
            rw [hLL] at hlv
            subst hlv
            clear hLL
            generalize A.getD j default = O at *
            have hb2 := World.block_lt_of_cell? _ _ (hcc 0 _ rfl)
            have q : ∀ i u, w.cell? ⟨b2, i, none⟩ = some u → wr.cell? ⟨b2, i, none⟩ = some u := fun i u hc => (BQ.out.cell (p := ⟨b2, i, none⟩) hb2).trans hc
            have t0 : wr.cell? ⟨b2, o2 + j * 6, none⟩ = _ := q _ _ (hcc 0 _ rfl)
            have t1 := q _ _ (hcc 1 _ rfl)
            have t2 := q _ _ (hcc 2 _ rfl)
            have t3 := q _ _ (hcc 3 _ rfl)
            have t4 := q _ _ (hcc 4 _ rfl)
            have t5 := q _ _ (hcc 5 _ rfl)
            clear hcc q
            obtain ⟨N, hN⟩ : ∃ N, ks'.length = N := ⟨_, rfl⟩
            have hNN : N ≤ 2097153 := by have := KQ.out.1; omega
            have HN := hid hN
            have OW : Hid (wr.ownsRow w.heap.size 9 1 (.slice ka2 N kc2) N (ks'.map Value.string)) := by
              obtain ⟨_, _, _, _, _, _, _, _, _, _, _, _, _, hk⟩ := LQ.out
              have := hk.row
              rw [hN] at this
              exact this
            have LQ2 : Hid (Lv w.heap.size wr sb xb ob yb (.slice ka2 N kc2) (n + 2 * A.length) L9 M ks') := by have := LQ.out; rw [hN] at this; exact this
            have hwq := BQ.out.size
            rw [hN]
            clear hN LQ
            go_wp2_with (at_builtin; refine wpList_append_lies _ rfl _ _ 29 rfl w.heap.size 9 i0 (.string ⟨#[]⟩) 1 16 Try.underlying29 HI0.out HZ0.out HZ1.out HZ2.out rfl (by decide) (.slice ka2 N kc2) N (ks'.map Value.string) rfl ((OW.out.alloc _).alloc _) ⟨wr.heap.size + 1, 0, none⟩ 1 1 [.string O.key] rfl rfl (World.news_of_block (cs := #[.string O.key]) (t := 9) (fr := (0, 0)) (by rw [alloc_at, alloc_size, if_pos rfl])) (by simp [Value.oneCell']) (by decide) (by unfold maxLen; omega) (by omega) (by simp; omega) (wr.heap.size + 2) (by simp) ?_; intro g cap w8 hown hgrow hat hglt)
            have GQ : Hid (Gro (fun b => (Value.slice ka2 N kc2).ownBlock = some b) wr w8) := ⟨hgrow.os, hgrow.tape, hgrow.output, by have := hgrow.size; simp at this; omega, fun b hb hn => (hgrow.block b (by simp; omega) (fun e => hn e.symm)).trans (by rw [alloc_at, alloc_size, if_neg (by omega), alloc_at, if_neg (by omega)])⟩
            have LQ8 : Hid (Lv w.heap.size w8 sb xb ob yb (.slice (some ⟨g, 0, none⟩) (N + 1) cap) (n + 2 * A.length) L9 M (ks' ++ [O.key])) := by
              refine LQ2.out.keyed GQ.out ?_ (fun g2 e => ?_)
              · rw [List.length_append, List.map_append, HN.out]
                exact hown
              · have e' : g = g2 := by simpa [Value.ownBlock] using e
                subst e'
                rcases hat with c | c
                · exact .inl c
                · exact .inr (by omega)
            have BQ8 : Hid (Below w.heap.size w w8) := ⟨GQ.out.os.trans BQ.out.os, GQ.out.tape.trans BQ.out.tape, GQ.out.output.trans BQ.out.output, by have := GQ.out.size; omega, fun b hb => (GQ.out.block b (by omega) (fun e => by have := (own_block2 OW.out e).1; omega)).trans (BQ.out.block b hb)⟩
            have KQ8 : Hid ((ks' ++ [O.key]).length = N + 1 ∧ (ks' ++ [O.key]).length = ks.length + (j + 1) ∧ ∀ x ∈ ks' ++ [O.key], x.size ≤ 281474976710656) := by
              have hl : (ks' ++ [O.key]).length = N + 1 := by rw [List.length_append, HN.out]; rfl
              refine ⟨hl, by have := KQ.out.1; have := HN.out; omega, fun x hx => ?_⟩
              rcases List.mem_append.1 hx with c | c
              · exact KQ.out.2 x c
              · simp at c; subst c; exact KO.out
            clear hown hgrow hat hglt
            go_wp2_with fail
            go_roundg (A.length - (j + 1))
            case measure => omega
            case rel => exact ⟨j + 1, ks' ++ [O.key], by omega, by omega, by go_num, ⟨_, _, by rw [KQ8.out.1]⟩, LQ8.out, BQ8.out, KQ8.out.2⟩
          · have hjA : j = A.length := by omega
            have NQ : Hid (Nm l (k + 1) (n + 2 * A.length) L9 M ks') := NMS.out ks' (by have := KQ.out.1; omega) KQ.out.2
            go_wp2_with fail
            go_roundg (l.length - (k + 1))
            case measure => omega
            case rel => exact ⟨k + 1, sb, xb, ob, yb, _, _, _, ks', by omega, by omega, by go_num, rfl, rfl, rfl, rfl, ⟨_, _, rfl⟩, LQ.out, BQ.out, NQ.out⟩
      | true =>
        go_wp2_with (go_at_call 6
                     refine OC.out.mono ?_
                     rintro e w3 ⟨v3, rfl, g3, b3⟩
                     obtain ⟨a3, c3, hv3, -⟩ := id g3
                     subst hv3
                     have G3 : Hid (Tx.OpsOwn (fun b => wo.heap.size + 1 ≤ b) w3 (.slice a3 A.length c3) A) := by have := g3; rw [HA.out] at this; exact this
                     have B3 := hid b3
                     clear g3 b3
                     have hz3 : wo.heap.size + 1 ≤ w3.heap.size := by have := B3.out.size; rw [HA.out] at this; exact this
                     have HB3 : Hid (w3.heap[wo.heap.size]? = some (.cells #[.slice oa A.length oc, .bool bl, .bool true] 31 (0, 0))) := (B3.out.block wo.heap.size (by rw [HA.out]; omega)).trans (by rw [alloc_at, if_pos rfl])
                     have e0 : w3.cell? ⟨wo.heap.size, 0, none⟩ = some (.slice oa A.length oc) := Lib.cell_of_heap HB3.out 0
                     have e1 : w3.cell? ⟨wo.heap.size, 1, none⟩ = some (.bool bl) := Lib.cell_of_heap HB3.out 1
                     have e2 : w3.cell? ⟨wo.heap.size, 2, none⟩ = some (.bool true) := Lib.cell_of_heap HB3.out 2
                     have BW3 : Hid (Below wo.heap.size wo w3) := BA.out.trans (B3.out.mono (by rw [HA.out]; omega))
                     skip)
        have LV3 := hid (LV.out.later BW3.out)
        obtain ⟨lb0, rb0, F0, v0, _, _, _, _, P0, _, p0, _⟩ := LV3.out
        have hnL0 := NM.out.hL
        have hnn0 := NM.out.hn
        have hnum0 : tot l k ≤ 1048576 := by have := TL.out; have := HT.out; have := TN.out; omega
        obtain ⟨rd, r1, r2, r3⟩ := p0.rs.row
        have hrl : rd.length = L.length := by rw [← r2, List.length_map]
        obtain ⟨va, vc, hv0⟩ := own_slice r1
        rw [hrl] at hv0
        have P0' := hid p0
        have c0 : w3.cell? ⟨xb, 0, none⟩ = some (.slice va L.length vc) := by rw [← hv0]; exact Lib.cell_of_heap P0'.out.rs.ob 0
        have hx3 : xb < w3.heap.size := P0'.out.rs.lt
        have R1 : Hid (w3.ownsRow w.heap.size 35 6 (.slice va L.length vc) rd.length (rowsV rd)) := by have := r1; rw [hv0] at this; exact this
        have R2 := hid r2
        have R3 := hid r3
        have CP : Hid (Calls Try.prog 5 #[.pointer (some ⟨sb, 0, none⟩)] w3.drew fun e w' => ∃ cb lb2 rb2, e = .returned (.pointer (some ⟨cb, 0, none⟩)) ∧ St w3.heap.size w' cb lb2 rb2 (fun b => w3.heap.size ≤ b ∧ b < w'.heap.size) n L ∧ Below w3.heap.size w3 w') :=
          (copy_is w.heap.size w3.drew sb lb0 rb0 F0 n L (P0'.out.st.later (below_drewN (Below.refl _ _) 1)) (by unfold maxLen; omega) (fun s => by have := lst_len L s; omega) (fun o ho => key_max (NM.out.kL o ho))).mono fun e w' ⟨cb, lb2, rb2, q1, q2, q3⟩ => ⟨cb, lb2, rb2, q1, q2, ⟨q3.os, q3.tape, q3.output, q3.size, q3.block⟩⟩
        clear p0 r1 r2 r3 hv0 LV3
        go_wp2_with fail
        go_region_held3 (fun w' => w'.cell? ⟨xb, 0, none⟩ = some (.slice va L.length vc)) (go_keep) (first
          | (go_at_call 5
             refine CP.out.mono ?_
             rintro e w5 ⟨cb, lb2, rb2, rfl, s5, b5⟩
             have CS5 := hid s5
             have CB5 := hid b5
             clear s5 b5
             have hz5 : w3.heap.size ≤ w5.heap.size := CB5.out.size
             have c5 : w5.cell? ⟨xb, 0, none⟩ = some (.slice va L.length vc) := (CB5.out.cell (p := ⟨xb, 0, none⟩) hx3).trans c0
             have CL : Hid (Calls Try.prog 7 #[.slice va L.length vc] w5 fun e w' => ∃ v', e = .returned v' ∧ w'.ownsRow w5.heap.size 35 6 v' rd.length (rowsV rd) ∧ Below w5.heap.size w5 w') := cloneO_is w.heap.size w5 _ rd (own_same R1.out (fun g e => CB5.out.block g (own_block2 R1.out e).2)) R3.out (by omega))
          | (go_at_call 7
             refine CL.out.mono ?_
             rintro e w6 ⟨v6, rfl, o6, b6⟩
             obtain ⟨vb, vd, hv6⟩ := own_slice o6
             rw [hrl] at hv6
             subst hv6
             have CO6 := hid o6
             have CB6 := hid b6
             clear o6 b6
             have hz6 : w5.heap.size ≤ w6.heap.size := CB6.out.size
             have c6 : w6.cell? ⟨xb, 0, none⟩ = some (.slice va L.length vc) := (CB6.out.cell (p := ⟨xb, 0, none⟩) (by show xb < w5.heap.size; omega)).trans c5))
        have BL6 : Hid (Below w5.heap.size w5 (w6.alloc (.cells #[.slice vb L.length vd] 28))) := CB6.out.trans (((Below.refl _ w6).alloc (Nat.le_refl _) _).mono hz6)
        have BL9 : Hid (Below w3.heap.size w3 (w6.alloc (.cells #[.slice vb L.length vd] 28))) := CB5.out.trans (BL6.out.mono hz5)
        have RS9 : Hid (Rst w3.heap.size (w6.alloc (.cells #[.slice vb L.length vd] 28)) w6.heap.size (.slice vb L.length vd) L) := ⟨by rw [alloc_at, if_pos rfl], rd, own_mono (own_same CO6.out (fun g e => by
          have q := (own_block2 CO6.out e).2
          rw [alloc_at, if_neg (by omega)])) hz5, R2.out, R3.out⟩
        have ST9 : Hid (St w3.heap.size (w6.alloc (.cells #[.slice vb L.length vd] 28)) cb lb2 rb2 (fun b => w3.heap.size ≤ b ∧ b < w5.heap.size) n L) := CS5.out.later BL6.out
        have LW := hid (Lw.copied LV.out BW3.out hz3 G3.out BL9.out ST9.out RS9.out (mid := w5.heap.size) (fun b hb => hb.2) hz5 hz6 (fun g e => by
          have q := own_block2 CO6.out e
          omega))
        have WW : Hid (Below w.heap.size w (w6.alloc (.cells #[.slice vb L.length vd] 28))) := (BW.out.trans (BW3.out.mono hsz)).trans (BL9.out.mono (by omega))
        have K0 : Hid ((w6.alloc (.cells #[.slice vb L.length vd] 28)).cell? ⟨wo.heap.size, 0, none⟩ = some (.slice oa A.length oc)) := (BL9.out.cell (p := ⟨wo.heap.size, 0, none⟩) (by show wo.heap.size < w3.heap.size; omega)).trans (Lib.cell_of_heap HB3.out 0)
        have K1 : Hid ((w6.alloc (.cells #[.slice vb L.length vd] 28)).cell? ⟨wo.heap.size, 1, none⟩ = some (.bool bl)) := (BL9.out.cell (p := ⟨wo.heap.size, 1, none⟩) (by show wo.heap.size < w3.heap.size; omega)).trans (Lib.cell_of_heap HB3.out 1)
        have hz9 : w3.heap.size ≤ (w6.alloc (.cells #[.slice vb L.length vd] 28)).heap.size := BL9.out.size
        have NM9 := hid NM.out.copied
        clear BL6 BL9 RS9 ST9 CO6 CB6 CB5 CS5 CL CP R1 R2 R3 P0' c0 c5 c6 hx3
        generalize w6.alloc (.cells #[.slice vb L.length vd] 28) = w9 at *
        generalize w6.heap.size = zb at *
        obtain ⟨lb, rb, F, v, lo, ro, G, u, P, Q, p1, p2, hd, hk4, hbx, hgv⟩ := LW.out
        have P1 := hid p1
        have P2 := hid p2
        have HD := hid hd
        have HK4 := hid hk4
        have HGV := hid hgv
        have HBX := hid hbx
        clear p1 p2 hd hk4 hgv hbx
        have TN2 : Hid (tot l (k + 1) = tot l k + A.length) := TN.out
        have hnum : tot l k + A.length ≤ 1048576 := by have := TN2.out; have := TL.out; have := HT.out; omega
        have hnL := NM.out.hL
        have hnn := NM.out.hn
        have hbw := WW.out.size
        obtain ⟨bk, hbk⟩ : ∃ bk : Bool, (bk = true ↔ okM L A bl) := by classical exact ⟨decide (okM L A bl), by simp⟩
        have HBK := hid hbk
        clear hbk
        have hne : (bk != bk) = false := by cases bk <;> rfl
        have AP : Hid (Calls Try.prog 8 #[.pointer (some ⟨cb, 0, none⟩), .slice a3 A.length c3, .bool bl] (w9).drew fun e w' => e = .returned (.bool bk) ∧ St w.heap.size w' cb lb rb (wide F (w9) w') (n + 2 * A.length) (if bk = true then stM L A A.length else L) ∧ Gro F (w9) w') :=
          (apply_is w.heap.size (w9).drew cb lb rb F n L A (.slice a3 A.length c3) bl (P1.out.st.later (below_drewN (Below.refl _ _) 1)) WW.out.size (HGV.out.keep (fun _ _ _ => rfl) (fun b _ hb c => hb (P1.out.pf b c))) KA.out (by unfold maxLen; omega) (fun i hi => by
            have q1 := lst_len (stM L A i) (A.getD i default).key
            have q2 := st_len L A i
            omega)).mono fun e w' ⟨b, q1, q2, q3, q4⟩ => by
              have hb := bool_same q2 HBK.out
              subst hb
              exact ⟨q1, q3, ⟨q4.os, q4.tape, q4.output, q4.size, q4.block⟩⟩
        have k0 : (w9).cell? ⟨wo.heap.size, 0, none⟩ = some (.slice oa A.length oc) := K0.out
        have k1 : (w9).cell? ⟨wo.heap.size, 1, none⟩ = some (.bool bl) := K1.out
        have hbxl : wo.heap.size < (w9).heap.size := by omega
        have HOW : Hid (OpsIn (fun b => b < w.heap.size) (w9) (.slice oa A.length oc) A) := HOP.out.keep (keeps_below WW.out) (fun b hb _ => hb)
        have hxl : zb < (w9).heap.size := (P1.out.lt _ P1.out.px).2
        clear LV LW
        go_wp2_with fail
        go_region_held3 (fun w' => w'.cell? ⟨wo.heap.size, 0, none⟩ = some (.slice oa A.length oc) ∧ w'.cell? ⟨wo.heap.size, 1, none⟩ = some (.bool bl)) (go_keep) (first
          | (go_at_call 8
             refine AP.out.mono ?_
             rintro e w5 ⟨rfl, s5, g5⟩
             have S5 := hid s5
             have G5 := hid g5
             clear s5 g5
             have hz5 : (w9).heap.size ≤ w5.heap.size := G5.out.size
             have m0 : w5.cell? ⟨wo.heap.size, 0, none⟩ = some (.slice oa A.length oc) := (World.cell?_of_block (a := ⟨wo.heap.size, 0, none⟩) (G5.out.block wo.heap.size hbxl (fun c => HBX.out (P1.out.pf _ c)))).trans k0
             have m1 : w5.cell? ⟨wo.heap.size, 1, none⟩ = some (.bool bl) := (World.cell?_of_block (a := ⟨wo.heap.size, 1, none⟩) (G5.out.block wo.heap.size hbxl (fun c => HBX.out (P1.out.pf _ c)))).trans k1
             have O5 : Hid (OpsIn (fun b => b < w.heap.size) w5 (.slice oa A.length oc) A) := HOW.out.keep (fun b hb hlt => G5.out.block b hlt (fun c => by have := (P1.out.lt b (P1.out.pf b c)).1; omega)) (fun _ _ x => x)
             have V5 : Hid (OpsIn (fun b => ¬ P b) w5 (.slice a3 A.length c3) A) := HGV.out.keep (fun b hb hlt => G5.out.block b hlt (fun c => hb (P1.out.pf b c))) (fun _ _ x => x)
             have RP : Hid (Calls Try.prog 9 #[.pointer (some ⟨zb, 0, none⟩), .slice oa A.length oc, .bool bl] w5 fun e w' => ∃ v', e = .returned (.bool bk) ∧ Rst w.heap.size w' zb v' (if bk = true then stM L A A.length else L) ∧ (∀ g, v'.ownBlock = some g → v.ownBlock = some g ∨ w5.heap.size ≤ g) ∧ Gro (fun b => b = zb) w5 w') :=
               (rapply_is w.heap.size w5 zb v L A (.slice oa A.length oc) bl (P1.out.rs.keep (G5.out.block _ hxl P1.out.fx) (fun g e => G5.out.block g (P1.out.lt g (P1.out.pv g e)).2 (P1.out.fv g e).1)) (by omega) (O5.out.keep (fun _ _ _ => rfl) (fun _ _ _ => trivial)) (by omega)).mono fun e w' ⟨b, v', q1, q2, q3, q4, q5⟩ => by
                 have hb := bool_same q2 HBK.out
                 subst hb
                 exact ⟨v', q1, q3, q4, q5⟩)
          | (go_at_call 9
             refine RP.out.mono ?_
             rintro e w6 ⟨v6, rfl, s6, o6, g6⟩
             have S6 := hid s6
             have OO6 := hid o6
             have G6 := hid g6
             clear s6 o6 g6
             have hz6 : w5.heap.size ≤ w6.heap.size := G6.out.size
             have hxB : w.heap.size ≤ zb := (P1.out.lt _ P1.out.px).1
             have hxb : wo.heap.size ≠ zb := fun c => HBX.out (c ▸ P1.out.px)
             have n0 : w6.cell? ⟨wo.heap.size, 0, none⟩ = some (.slice oa A.length oc) := (World.cell?_of_block (a := ⟨wo.heap.size, 0, none⟩) (G6.out.block wo.heap.size (by omega) hxb)).trans m0
             have n1 : w6.cell? ⟨wo.heap.size, 1, none⟩ = some (.bool bl) := (World.cell?_of_block (a := ⟨wo.heap.size, 1, none⟩) (G6.out.block wo.heap.size (by omega) hxb)).trans m1
             have SO : Hid (Calls Try.prog 10 #[.slice a3 A.length c3, .slice oa A.length oc] w6 fun e w' => e = .returned (.bool true) ∧ Below w6.heap.size w6 w') :=
               (Tx.sameOps_any (S := fun b => ¬ P b) (T := fun b => b < w.heap.size) _ _ A A w6 (V5.out.keep (fun b hb hlt => G6.out.block b hlt (fun c => hb (by rw [show b = zb from c]; exact P1.out.px))) (fun _ _ x => x)) (O5.out.keep (fun b hb hlt => G6.out.block b hlt (fun c => by have c' : b = zb := c; omega)) (fun _ _ x => x))).mono fun e w' ⟨q1, q2⟩ => ⟨by rw [q1, show opsEq A A = true from allEq_refl _ opEq_refl A], q2⟩)
          | (go_at_call 10
             refine SO.out.mono ?_
             rintro e w7 ⟨rfl, b7⟩
             have B7 := hid b7
             clear b7
             have l6 : wo.heap.size < w6.heap.size := by omega
             have p0 : w7.cell? ⟨wo.heap.size, 0, none⟩ = some (.slice oa A.length oc) := (B7.out.cell (p := ⟨wo.heap.size, 0, none⟩) l6).trans n0
             have p1 : w7.cell? ⟨wo.heap.size, 1, none⟩ = some (.bool bl) := (B7.out.cell (p := ⟨wo.heap.size, 1, none⟩) l6).trans n1))
        have STP := hid (lv_step P1.out P2.out HD.out HK4.out S5.out G5.out S6.out OO6.out G6.out (by omega))
        have LV7 : Hid (Lv w.heap.size w7 cb zb sb xb (.slice ka ks.length kc) (n + 2 * A.length) (if bk = true then stM L A A.length else L) L ks) := STP.out.1.later B7.out
        have BW7 : Hid (Below w.heap.size w w7) := by
          have q := STP.out.2
          exact ⟨B7.out.os.trans (q.os.trans WW.out.os), B7.out.tape.trans (q.tape.trans WW.out.tape), B7.out.output.trans (q.output.trans WW.out.output), by have := B7.out.size; omega, fun b hb => (B7.out.block b (by omega)).trans ((q.block b (by omega) (fun c => by have := (P1.out.lt b c).1; omega)).trans (WW.out.block b hb))⟩
        have NMS : Hid (∀ ks' : List ByteArray, ks'.length = ks.length + A.length → (∀ x ∈ ks', x.size ≤ 281474976710656) → Nm l (k + 1) (n + 2 * A.length) (if bk = true then stM L A A.length else L) L ks') := fun ks' q1 q2 => NM9.out.step TN2.out KA.out bk q1 q2
        have hksl := NM.out.hks
        have KK : Hid (∀ x ∈ ks, x.size ≤ 281474976710656) := NM.out.kk
        clear STP S5 G5 S6 OO6 G6 B7 m0 m1 n0 n1 k0 k1 AP RP SO O5 V5 HOW HGV P1 P2 HD HK4 HBX HBK WW hne hxl hxB hxb l6 hz5 hz6
        generalize (if bk = true then stM L A A.length else L) = L9 at *
        go_wp2_with fail
        go_loopg [9, 76] A.length (fun g kv i wr => ∃ (j : Nat) (ks' : List ByteArray), j ≤ A.length ∧ A.length - j ≤ g ∧ i = .int .i64 j ∧ (∃ a c, kv = .slice a ks'.length c) ∧ Aside (Lv w.heap.size wr cb zb sb xb kv (n + 2 * A.length) L9 L ks') ∧ Aside (Below w.heap.size w wr) ∧ Aside (ks'.length = ks.length + j ∧ ∀ x ∈ ks', x.size ≤ 281474976710656))
        case atStart => exact ⟨0, ks, Nat.zero_le _, by omega, rfl, ⟨_, _, rfl⟩, LV7.out, BW7.out, rfl, KK.out⟩
        case round =>
          clear LV7 BW7 KK
          obtain ⟨j, ks', hjl, hg2, rfl, ⟨ka2, kc2, rfl⟩, LQ, BQ, KQ⟩ := hrel
          by_cases hj : j < A.length
          · have hji : (j : Int) < (A.length : Int) := by omega
            obtain ⟨ao2, c2, hv2, _, hc2⟩ := HOP.out
            injection hv2 with f1 f2 f3
            subst f1
            subst f3
            clear f2
            obtain ⟨b2, o2, rfl, _, hrow2⟩ := hc2 (by omega)
            obtain ⟨cs2, _, ⟨lv2, rfl, hli⟩, hcc⟩ := hrow2 j hj
            obtain ⟨la, lc, hlv, -⟩ := id hli
            have KO : Hid ((A.getD j default).key.size ≤ 281474976710656) := KA.out _ (by rw [List.getD, List.getElem?_eq_getElem hj]; exact List.getElem_mem hj)
            clear hc2 hrow2 hli
            obtain ⟨LL, hLL⟩ : ∃ LL, (A.getD j default).list.length = LL := ⟨_, rfl⟩
            rw [hLL] at hlv
            subst hlv
            clear hLL
            generalize A.getD j default = O at *
            have hb2 := World.block_lt_of_cell? _ _ (hcc 0 _ rfl)
            have q : ∀ i u, w.cell? ⟨b2, i, none⟩ = some u → wr.cell? ⟨b2, i, none⟩ = some u := fun i u hc => (BQ.out.cell (p := ⟨b2, i, none⟩) hb2).trans hc
            have t0 : wr.cell? ⟨b2, o2 + j * 6, none⟩ = _ := q _ _ (hcc 0 _ rfl)
            have t1 := q _ _ (hcc 1 _ rfl)
            have t2 := q _ _ (hcc 2 _ rfl)
            have t3 := q _ _ (hcc 3 _ rfl)
            have t4 := q _ _ (hcc 4 _ rfl)
            have t5 := q _ _ (hcc 5 _ rfl)
            clear hcc q
            obtain ⟨N, hN⟩ : ∃ N, ks'.length = N := ⟨_, rfl⟩
            have hNN : N ≤ 2097153 := by have := KQ.out.1; omega
            have HN := hid hN
            have OW : Hid (wr.ownsRow w.heap.size 9 1 (.slice ka2 N kc2) N (ks'.map Value.string)) := by
              obtain ⟨_, _, _, _, _, _, _, _, _, _, _, _, _, hk⟩ := LQ.out
              have := hk.row
              rw [hN] at this
              exact this
            have LQ2 : Hid (Lv w.heap.size wr cb zb sb xb (.slice ka2 N kc2) (n + 2 * A.length) L9 L ks') := by have := LQ.out; rw [hN] at this; exact this
            have hwq := BQ.out.size
            rw [hN]
            clear hN LQ
            go_wp2_with (at_builtin; refine wpList_append_lies _ rfl _ _ 29 rfl w.heap.size 9 i0 (.string ⟨#[]⟩) 1 16 Try.underlying29 HI0.out HZ0.out HZ1.out HZ2.out rfl (by decide) (.slice ka2 N kc2) N (ks'.map Value.string) rfl ((OW.out.alloc _).alloc _) ⟨wr.heap.size + 1, 0, none⟩ 1 1 [.string O.key] rfl rfl (World.news_of_block (cs := #[.string O.key]) (t := 9) (fr := (0, 0)) (by rw [alloc_at, alloc_size, if_pos rfl])) (by simp [Value.oneCell']) (by decide) (by unfold maxLen; omega) (by omega) (by simp; omega) (wr.heap.size + 2) (by simp) ?_; intro g cap w8 hown hgrow hat hglt)
            have GQ : Hid (Gro (fun b => (Value.slice ka2 N kc2).ownBlock = some b) wr w8) := ⟨hgrow.os, hgrow.tape, hgrow.output, by have := hgrow.size; simp at this; omega, fun b hb hn => (hgrow.block b (by simp; omega) (fun e => hn e.symm)).trans (by rw [alloc_at, alloc_size, if_neg (by omega), alloc_at, if_neg (by omega)])⟩
            have LQ8 : Hid (Lv w.heap.size w8 cb zb sb xb (.slice (some ⟨g, 0, none⟩) (N + 1) cap) (n + 2 * A.length) L9 L (ks' ++ [O.key])) := by
              refine LQ2.out.keyed GQ.out ?_ (fun g2 e => ?_)
              · rw [List.length_append, List.map_append, HN.out]
                exact hown
              · have e' : g = g2 := by simpa [Value.ownBlock] using e
                subst e'
                rcases hat with c | c
                · exact .inl c
                · exact .inr (by omega)
            have BQ8 : Hid (Below w.heap.size w w8) := ⟨GQ.out.os.trans BQ.out.os, GQ.out.tape.trans BQ.out.tape, GQ.out.output.trans BQ.out.output, by have := GQ.out.size; omega, fun b hb => (GQ.out.block b (by omega) (fun e => by have := (own_block2 OW.out e).1; omega)).trans (BQ.out.block b hb)⟩
            have KQ8 : Hid ((ks' ++ [O.key]).length = N + 1 ∧ (ks' ++ [O.key]).length = ks.length + (j + 1) ∧ ∀ x ∈ ks' ++ [O.key], x.size ≤ 281474976710656) := by
              have hl : (ks' ++ [O.key]).length = N + 1 := by rw [List.length_append, HN.out]; rfl
              refine ⟨hl, by have := KQ.out.1; have := HN.out; omega, fun x hx => ?_⟩
              rcases List.mem_append.1 hx with c | c
              · exact KQ.out.2 x c
              · simp at c; subst c; exact KO.out
            clear hown hgrow hat hglt
            go_wp2_with fail
            go_roundg (A.length - (j + 1))
            case measure => omega
            case rel => exact ⟨j + 1, ks' ++ [O.key], by omega, by omega, by go_num, ⟨_, _, by rw [KQ8.out.1]⟩, LQ8.out, BQ8.out, KQ8.out.2⟩
          · have hjA : j = A.length := by omega
            have NQ : Hid (Nm l (k + 1) (n + 2 * A.length) L9 L ks') := NMS.out ks' (by have := KQ.out.1; omega) KQ.out.2
            go_wp2_with fail
            go_roundg (l.length - (k + 1))
            case measure => omega
            case rel => exact ⟨k + 1, cb, zb, sb, xb, _, _, _, ks', by omega, by omega, by go_num, rfl, rfl, rfl, rfl, ⟨_, _, rfl⟩, LQ.out, BQ.out, NQ.out⟩
    · have hksl := NM.out.hks
      have htk : tot l k ≤ 1048576 := by
        have hkk : k = l.length := by omega
        rw [hkk]
        exact HT.out
      have hLl := NM.out.hL
      have hMl := NM.out.hM
      have KK : Hid (∀ x ∈ ks, x.size ≤ 281474976710656) := NM.out.kk
      obtain ⟨lb, rb, F, v, lo, ro, G, u, P, Q, p1, p2, _, hk4⟩ := LV.out
      have P1 := hid p1
      have P2 := hid p2
      have hrow := hk4.row
      clear p1 p2 hk4 LV
      obtain ⟨kg, hkg, KC⟩ : ∃ kg, ka = some ⟨kg, 0, none⟩ ∧ Hid (∀ j, j < ks.length → wo.cell? ⟨kg, j, none⟩ = some (.string (ks.getD j default))) := by
        rcases hrow.2 with ⟨hv, hn0⟩ | ⟨g, cap, cur, hv, hr⟩
        · omega
        · injection hv with f1 f2 f3
          subst f1
          refine ⟨g, rfl, fun j hj => ?_⟩
          have := World.ownsRow.cellAt hrow j (by omega)
          rw [this]
          simp [hj, List.getD]
      subst hkg
      clear hrow
      obtain ⟨N, hN⟩ : ∃ N, ks.length = N := ⟨_, rfl⟩
      rw [hN] at KC ⊢
      have HN := hid hN
      have hNb : N ≤ 1048577 := by omega
      have hsz := BW.out.size
      clear hN hksl
      go_wp2_with fail
      go_loopg [89] N (fun g i wr => ∃ j : Nat, j ≤ N ∧ N - j ≤ g ∧ i = .int .i64 j ∧ Aside (Below wo.heap.size wo wr))
      case atStart => exact ⟨0, Nat.zero_le _, by omega, rfl, Below.refl _ _⟩
      case round =>
        rename World => wj
        obtain ⟨j, hjl, hg3, rfl, BJ⟩ := hrel
        by_cases hj : j < N
        · have hji : (j : Int) < (N : Int) := by omega
          have kc1 : wj.cell? ⟨kg, j, none⟩ = some (.string (ks.getD j default)) := (BJ.out.cell (p := ⟨kg, j, none⟩) (World.block_lt_of_cell? _ _ (KC.out j hj))).trans (KC.out j hj)
          have hjk : j < ks.length := by have := HN.out; omega
          have HKZ : Hid ((ks.getD j default).size ≤ 281474976710656) := KK.out _ (by rw [List.getD, List.getElem?_eq_getElem hjk]; exact List.getElem_mem hjk)
          clear hjk
          generalize ks.getD j default = K at *
          have hzj := BJ.out.size
          go_wp2_with fail
          go_loopg [101] 2 (fun g i wr => ∃ q : Nat, q ≤ 2 ∧ 2 - q ≤ g ∧ i = .int .i64 q ∧ Aside (Below wo.heap.size wo wr) ∧ Aside (wr.heap[wj.heap.size]? = some (.cells #[.pointer (some ⟨sb, 0, none⟩), .pointer (some ⟨xb, 0, none⟩), .pointer (some ⟨ob, 0, none⟩), .pointer (some ⟨yb, 0, none⟩)] 38 (0, 0))))
          case atStart => exact ⟨0, by omega, by omega, rfl, BJ.out.trans (((Below.refl _ wj).alloc (Nat.le_refl _) _).mono hzj), (show Aside _ from by show _ = _; rw [alloc_at, if_pos rfl])⟩
          case round =>
            obtain ⟨q, hq, hg4, rfl, BQ, HP⟩ := hrel
            by_cases hq2 : q < 2
            · have hqi : (q : Int) < 2 := by omega
              obtain ⟨sa, xa, la, ra, Fa, va, La, Pa, pr, cA, cB, hLa⟩ : ∃ (sa xa la ra : Nat) (Fa : Nat → Prop) (va : Value) (La : List MOp) (Pa : Nat → Prop), Hid (Pr w.heap.size wo sa la ra Fa xa va n La Pa) ∧ wr.cell? ⟨wj.heap.size, q * 2, none⟩ = some (.pointer (some ⟨sa, 0, none⟩)) ∧ wr.cell? ⟨wj.heap.size, q * 2 + 1, none⟩ = some (.pointer (some ⟨xa, 0, none⟩)) ∧ La.length ≤ 1048576 := by
                obtain rfl | rfl : q = 0 ∨ q = 1 := by omega
                · exact ⟨sb, xb, lb, rb, F, v, L, P, P1, Lib.cell_of_heap HP.out 0, Lib.cell_of_heap HP.out 1, by omega⟩
                · exact ⟨ob, yb, lo, ro, G, u, M, Q, P2, Lib.cell_of_heap HP.out 2, Lib.cell_of_heap HP.out 3, by omega⟩
              have hzq := BQ.out.size
              have PRr : Hid (Pr w.heap.size wr sa la ra Fa xa va n La Pa) := pr.out.later BQ.out
              have BAa : Hid (Below wr.heap.size wr (wr.alloc (.cells #[.pointer (some ⟨sa, 0, none⟩), .pointer (some ⟨xa, 0, none⟩)] 38))) := (Below.refl _ wr).alloc (Nat.le_refl _) _
              have HAa : Hid ((wr.alloc (.cells #[.pointer (some ⟨sa, 0, none⟩), .pointer (some ⟨xa, 0, none⟩)] 38)).heap.size = wr.heap.size + 1) := alloc_size _ _
              have VC := hid (value_is w.heap.size (wr.alloc (.cells #[.pointer (some ⟨sa, 0, none⟩), .pointer (some ⟨xa, 0, none⟩)] 38)) sa la ra Fa n La K (PRr.out.st.later BAa.out) HKZ.out)
              have RC : Hid (∀ w5, Below wr.heap.size wr w5 → _) := fun w5 hb5 => rvalue_is w.heap.size w5 xa va La K (PRr.out.rs.later hb5) (by omega)
              generalize rgV (regM La K) = VV at VC RC
              generalize (regM La K).isSome = VO at VC RC
              obtain ⟨ll, hll⟩ : ∃ ll, lstM La K = ll := ⟨_, rfl⟩
              have hllb : ll.length ≤ 1048576 := by rw [← hll]; have := lst_len La K; omega
              have HLL := hid hll
              clear hll pr
              have hv1 : (VV != VV) = false := by simp
              have hv2 : (VO != VO) = false := by cases VO <;> rfl
              go_wp2_with (first
                | (go_at_call 11
                   refine VC.out.mono ?_
                   rintro e w5 ⟨rfl, b5⟩
                   have B5 := hid b5
                   clear b5
                   have hz5 : wr.heap.size + 1 ≤ w5.heap.size := by have := B5.out.size; rw [HAa.out] at this; exact this
                   have HB5 : Hid (w5.heap[wr.heap.size]? = some (.cells #[.pointer (some ⟨sa, 0, none⟩), .pointer (some ⟨xa, 0, none⟩)] 38 (0, 0))) := (B5.out.block wr.heap.size (by rw [HAa.out]; omega)).trans (by rw [alloc_at, if_pos rfl])
                   have s0 : w5.cell? ⟨wr.heap.size, 0, none⟩ = some (.pointer (some ⟨sa, 0, none⟩)) := Lib.cell_of_heap HB5.out 0
                   have s1 : w5.cell? ⟨wr.heap.size, 1, none⟩ = some (.pointer (some ⟨xa, 0, none⟩)) := Lib.cell_of_heap HB5.out 1
                   have BW5 : Hid (Below wr.heap.size wr w5) := BAa.out.trans (B5.out.mono (by rw [HAa.out]; omega)))
                | (go_at_call 12
                   refine (RC.out w5 BW5.out).mono ?_
                   rintro e w6 ⟨rfl, hw6⟩
                   subst hw6))
              have LC : Hid (Calls Try.prog 14 #[.pointer (some ⟨sa, 0, none⟩), .string K] w5.drew fun e w' => ∃ v, e = .returned v ∧ w'.ownsRow w5.heap.size 3 1 v ll.length (ll.map (Value.int .i64)) ∧ Below w5.heap.size w5 w') :=
                (list_is w.heap.size w5.drew sa la ra Fa n La K (PRr.out.st.later (below_drewN BW5.out 1)) HKZ.out (by rw [HLL.out]; omega)).mono fun e w' ⟨v, q1, q2, q3⟩ => ⟨v, q1, by rw [HLL.out] at q2; exact q2, ⟨q3.os, q3.tape, q3.output, q3.size, q3.block⟩⟩
              go_wp2_with fail
              go_region_held3 (fun w' => w'.cell? ⟨wr.heap.size, 0, none⟩ = some (.pointer (some ⟨sa, 0, none⟩)) ∧ w'.cell? ⟨wr.heap.size, 1, none⟩ = some (.pointer (some ⟨xa, 0, none⟩))) (go_keep) (first
                | (go_at_call 14
                   refine LC.out.mono ?_
                   rintro e w7 ⟨v7, rfl, o7, b7⟩
                   obtain ⟨a7, c7, hv7, i7⟩ := own_cells o7
                   subst hv7
                   have I7 := hid i7
                   have B7 := hid b7
                   clear o7 i7 b7
                   have hz7 : w5.heap.size ≤ w7.heap.size := B7.out.size
                   have u0 : w7.cell? ⟨wr.heap.size, 0, none⟩ = some (.pointer (some ⟨sa, 0, none⟩)) := (B7.out.cell (p := ⟨wr.heap.size, 0, none⟩) (by show wr.heap.size < w5.heap.size; omega)).trans s0
                   have u1 : w7.cell? ⟨wr.heap.size, 1, none⟩ = some (.pointer (some ⟨xa, 0, none⟩)) := (B7.out.cell (p := ⟨wr.heap.size, 1, none⟩) (by show wr.heap.size < w5.heap.size; omega)).trans s1
                   have RL : Hid (Calls Try.prog 15 #[.pointer (some ⟨xa, 0, none⟩), .string K] w7 fun e w' => ∃ v, e = .returned v ∧ w'.ownsRow w7.heap.size 3 1 v ll.length (ll.map (Value.int .i64)) ∧ Below w7.heap.size w7 w') :=
                     (rlist_is w.heap.size w7 xa va La K (PRr.out.rs.later (BW5.out.trans (B7.out.mono (by omega)))) (by omega)).mono fun e w' ⟨v, q1, q2, q3⟩ => ⟨v, q1, by rw [HLL.out] at q2; exact q2, q3⟩)
                | (go_at_call 15
                   refine RL.out.mono ?_
                   rintro e w8 ⟨v8, rfl, o8, b8⟩
                   obtain ⟨a8, c8, hv8, i8⟩ := own_cells o8
                   subst hv8
                   have I8 := hid i8
                   have B8 := hid b8
                   clear o8 i8 b8
                   have hz8 : w7.heap.size ≤ w8.heap.size := B8.out.size
                   have x0 : w8.cell? ⟨wr.heap.size, 0, none⟩ = some (.pointer (some ⟨sa, 0, none⟩)) := (B8.out.cell (p := ⟨wr.heap.size, 0, none⟩) (by show wr.heap.size < w7.heap.size; omega)).trans u0
                   have x1 : w8.cell? ⟨wr.heap.size, 1, none⟩ = some (.pointer (some ⟨xa, 0, none⟩)) := (B8.out.cell (p := ⟨wr.heap.size, 1, none⟩) (by show wr.heap.size < w7.heap.size; omega)).trans u1
                   have EQ : Hid (Calls Try.prog 13 #[.slice a7 ll.length c7, .slice a8 ll.length c8] w8 fun e w' => e = .returned (.bool true) ∧ Below w8.heap.size w8 w') :=
                     (slicesEqual_cells a7 a8 c7 c8 ll.length ll.length ll ll w8 rfl rfl (by omega) (I7.out.later B8.out) I8.out).mono fun e w' ⟨q1, q2⟩ => ⟨by rw [q1, decide_eq_true rfl], by
                       obtain ⟨d, rfl⟩ := q2
                       exact below_drewN (Below.refl _ _) d⟩)
                | (go_at_call 13
                   refine EQ.out.mono ?_
                   rintro e w9 ⟨rfl, b9⟩
                   have B9 := hid b9
                   clear b9
                   have hz9 : w8.heap.size ≤ w9.heap.size := B9.out.size
                   have y0 : w9.cell? ⟨wr.heap.size, 0, none⟩ = some (.pointer (some ⟨sa, 0, none⟩)) := (B9.out.cell (p := ⟨wr.heap.size, 0, none⟩) (by show wr.heap.size < w8.heap.size; omega)).trans x0
                   have y1 : w9.cell? ⟨wr.heap.size, 1, none⟩ = some (.pointer (some ⟨xa, 0, none⟩)) := (B9.out.cell (p := ⟨wr.heap.size, 1, none⟩) (by show wr.heap.size < w8.heap.size; omega)).trans x1))
              have BR9 : Hid (Below wr.heap.size wr w9) := ((BW5.out.trans (B7.out.mono (by omega))).trans (B8.out.mono (by omega))).trans (B9.out.mono (by omega))
              have HP9 : Hid (w9.heap[wj.heap.size]? = some (.cells #[.pointer (some ⟨sb, 0, none⟩), .pointer (some ⟨xb, 0, none⟩), .pointer (some ⟨ob, 0, none⟩), .pointer (some ⟨yb, 0, none⟩)] 38 (0, 0))) := (BR9.out.block _ (blt HP.out)).trans HP.out
              have BQ9 : Hid (Below wo.heap.size wo w9) := BQ.out.trans (BR9.out.mono hzq)
              go_wp2_with fail
              go_roundg (2 - (q + 1))
              case measure => omega
              case rel => exact ⟨q + 1, by omega, by omega, by go_num, BQ9.out, HP9.out⟩
            · have hqi : ¬ (q : Int) < 2 := by omega
              go_wp2_with fail
              go_roundg (N - (j + 1))
              case measure => omega
              case rel => exact ⟨j + 1, by omega, by omega, by go_num, BQ.out⟩
        · have hji : ¬ (j : Int) < (N : Int) := by omega
          go_wp2_with fail
          go_ret
          exact ⟨rfl, BW.out.trans (BJ.out.mono hsz)⟩
end Go.Proofs.Ytjmjjjehdgcnhaa
