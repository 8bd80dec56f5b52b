/-
  Walk of the code's Print of histories.
-/
import Derived.Test.YtlkmciegpmpbbaaDoorHPrintA
namespace Go.Proofs.YtlkmciegpmpbbaaDoor
set_option linter.unusedVariables false
set_option linter.unusedSimpArgs false
open Go.RowKit

set_option maxHeartbeats 8000000 in
set_option maxRecDepth 100000 in
/-- The code's Print, at a history that may be. -/
theorem printH_yes (v : Value) (l : List MEv) (w : World) (te : TypeId) (pe : Value) (hv : w.cell? ⟨0, 0, none⟩ = some pe) (htab : Pow10 w) (h : EvsIn Any w v l) (hc : canM l = true) (hvf : ValsFit l) :
    Calls Tryd.prog 7 #[v] w fun e w' => e = .returned (.string ⟨(printL false (toksOf l)).toArray⟩) ∧ Below w.heap.size w w' := by
  obtain ⟨i0, hi, hz0, hz1, hz2⟩ := info_parts Tryd.infoTok
  have HCAN := hid (can_any v l w te pe hv h)
  rw [hc] at HCAN
  have HT : Hid (Lib.TabBelow Tryd.prog w.heap.size w "internal/strconv.uint64pow10" .u64 Lib.pow10Tab) := Lib.tabBelow_of_tabIs htab
  have hs : EvsIn (fun b => b < w.heap.size) w v l := h.keep (fun _ _ _ => rfl) (fun b hb _ => hb)
  obtain ⟨hl3, hall⟩ := can_parts hc
  have HALL := hid hall
  have HVF := hid hvf
  obtain ⟨a1, c1, rfl, hbig, k0⟩ := RowsIn.cells hs (by omega)
  have HC := hid k0
  clear hs k0 h hv htab hc hall hvf
  go_enter Tryd.func7, Tryd.ntmps7
  go_wp2_with fail
  refine HCAN.out.mono ?_
  rintro e w1 ⟨rfl, b1⟩
  have B1 := hid b1
  clear b1
  go_wp2_with fail
  go_loopg [3, 13] l.length (fun g vr i wr => ∃ k : Nat, k ≤ l.length ∧ l.length - k ≤ g ∧ i = .int .i64 k ∧ Aside (wr.ownsRow w.heap.size 38 4 vr (toksOf (l.take k)).length (flat (toksOf (l.take k)))) ∧ Aside (Below w.heap.size w wr))
  case atStart => exact ⟨0, Nat.zero_le _, by omega, rfl, World.ownsRow_nil _ _ _ _, B1.out⟩
  case round =>
    obtain ⟨k, hk, hg, rfl, O, BW⟩ := hrel
    generalize wr = W0 at *
    by_cases hlt : k < l.length
    · have hlti : (k : Int) < (l.length : Int) := by omega
      obtain ⟨b1, o1, cs1, rfl, hb1, _, ⟨ov, rfl, i1⟩, k1⟩ := HC.out k hlt
      have d0 : W0.cell? ⟨b1, o1 + k * 3, none⟩ = _ := (BW.out.cell (p := ⟨b1, o1 + k * 3, none⟩) hb1).trans (k1 0 _ rfl)
      have d1 := (BW.out.cell (p := ⟨b1, o1 + k * 3 + 1, none⟩) hb1).trans (k1 1 _ rfl)
      have d2 := (BW.out.cell (p := ⟨b1, o1 + k * 3 + 2, none⟩) hb1).trans (k1 2 _ rfl)
      clear k1
      have hsz := BW.out.size
      obtain ⟨oa, oc, rfl, _, ro⟩ := RowsIn.cells i1 (by omega)
      have RO := hid ro
      clear i1 ro
      obtain ⟨hh, hops⟩ := ev_parts (HALL.out _ (mem_at hlt))
      have HTK : Hid (toksOf (l.take (k + 1)) = toksOf (l.take k) ++ evT (l.getD k default)) := take_flat evT hlt
      have hTl : (toksOf (l.take k)).length ≤ 111300 := by
        have := toks_len (l.take k) (fun e he => HALL.out e (List.mem_of_mem_take he))
        rw [List.length_take] at this
        omega
      generalize toksOf (l.take k) = T at *
      have hT2 : T.length + 2 ≤ 1000000 := r2 hTl (by omega)
      generalize l.getD k default = X at *
      obtain ⟨ek, ep, xs⟩ := X
      simp only [MEv.kind, MEv.proc, MEv.ops] at *
      have hkk : 1 ≤ ek ∧ ek ≤ 4 := ⟨hh.1, hh.2.1⟩
      have hx8 : xs.length ≤ 8 := hh.2.2.2.2.2
      have HOPS := hid hops
      clear hh hops
      have hap : AP w.heap.size W0 _ W0.heap.size [.int .i64 ek, .int .i64 ep, .slice oa xs.length oc] (W0.alloc (.cells #[.int .i64 ek, .int .i64 ep, .slice oa xs.length oc] 29)) _ T :=
        ⟨owns_keep O.out (fun g hg => Lib.alloc_old W0 _ g (O.out.lt g hg).2), (Below.refl _ _).alloc hsz _, hsz, fun i u hi => (new_cells W0 _ 29 i).trans (by simpa using hi), by simp, fun e => by have := (O.out.lt _ e).2; omega, fun k hk _ => Lib.alloc_old W0 _ k hk, fun g hg => .inl hg⟩
      have P0 := hid hap
      clear hap
      go_wp2_with fail
      clear d0 d1 d2
      generalize W0.alloc (.cells #[.int .i64 ek, .int .i64 ep, .slice oa xs.length oc] 29) = w5 at P0 ⊢
      have x0 : w5.cell? ⟨W0.heap.size, 0, none⟩ = _ := P0.out.box 0 _ rfl
      have x1 : w5.cell? ⟨W0.heap.size, 1, none⟩ = _ := P0.out.box 1 _ rfl
      have IX := fun W => ix_ev hkk W
      go_region_held3 (fun w' => w'.cell? ⟨W0.heap.size, 0, none⟩ = some (.int .i64 ek) ∧ w'.cell? ⟨W0.heap.size, 1, none⟩ = some (.int .i64 ep))
        (first | exact ⟨x0, x1⟩ | exact ⟨y0 _, y1 _⟩ | exact ⟨P1.out.box 0 _ rfl, P1.out.box 1 _ rfl⟩ | go_keep)
        ((first
          | (refine step_append_lies _ (by rfl) _ _ 36 (by rfl) w.heap.size 38 i0 _ 4 40 Tryd.underlying36 hi hz0 hz1 hz2 rfl (by decide) _ T.length (flat T) (by rfl) (P0.out.later (below_box w5 _)).own ⟨w5.heap.size, 0, none⟩ 2 2 [.int .i64 1, .int .i64 0, .string (evWord ek), .int .i64 0, .int .i64 2, .int .i64 0, .string ⟨#[]⟩, .int .i64 ep] (by rfl) (by rfl) (World.news_of_block (cs := #[.int .i64 1, .int .i64 0, .string (evWord ek), .int .i64 0, .int .i64 2, .int .i64 0, .string ⟨#[]⟩, .int .i64 ep]) (t := 38) (fr := (0, 0)) (heap_alloc_new w5 _)) (by simp [Value.oneCell']) (by decide) (room_max hT2 mil) (room_le hT2 mil) (P0.out.later (below_box w5 _)).size (w5.heap.size + 1) (by simp) ?_
             intro g cap w6 hown hgrow hat hglt
             have P1 := hid ((P0.out.later (below_box w5 (.cells #[.int .i64 1, .int .i64 0, .string (evWord ek), .int .i64 0, .int .i64 2, .int .i64 0, .string ⟨#[]⟩, .int .i64 ep] 38))).grown (ts := [wordT (evWord ek), numT ep]) (by simp) rfl hown hgrow (by simp) hat)
             clear hown hgrow hat hglt)
          | (go_at_call 14
             refine (evWords_any _).mono ?_
             rintro e w5 ⟨rfl, b5⟩
             have P0 := hid (P0.out.later (Below.trans (by repeat (first | exact Below.refl _ _ | apply Below.drew)) b5))
             have x0 : w5.cell? ⟨W0.heap.size, 0, none⟩ = _ := P0.out.box 0 _ rfl
             have x1 : w5.cell? ⟨W0.heap.size, 1, none⟩ = _ := P0.out.box 1 _ rfl
             have y0 : ∀ o, (w5.alloc o).cell? ⟨W0.heap.size, 0, none⟩ = _ := fun o => Lib.cell?_alloc_some _ x0
             have y1 : ∀ o, (w5.alloc o).cell? ⟨W0.heap.size, 1, none⟩ = _ := fun o => Lib.cell?_alloc_some _ x1
             clear b5)
          | (go_at_call 13
             refine (word_any _ _).mono ?_
             rintro e w5 ⟨rfl, b5⟩
             have P0 := hid (P0.out.later (Below.trans (by repeat (first | exact Below.refl _ _ | apply Below.drew)) b5))
             have x0 : w5.cell? ⟨W0.heap.size, 0, none⟩ = _ := P0.out.box 0 _ rfl
             have x1 : w5.cell? ⟨W0.heap.size, 1, none⟩ = _ := P0.out.box 1 _ rfl
             have y0 : ∀ o, (w5.alloc o).cell? ⟨W0.heap.size, 0, none⟩ = _ := fun o => Lib.cell?_alloc_some _ x0
             have y1 : ∀ o, (w5.alloc o).cell? ⟨W0.heap.size, 1, none⟩ = _ := fun o => Lib.cell?_alloc_some _ x1
             clear b5)
          | (go_at_call 15
             refine (numb_any _ _).mono ?_
             rintro e w5 ⟨rfl, b5⟩
             have P0 := hid (P0.out.later (Below.trans (by repeat (first | exact Below.refl _ _ | apply Below.drew)) b5))
             have x0 : w5.cell? ⟨W0.heap.size, 0, none⟩ = _ := P0.out.box 0 _ rfl
             have x1 : w5.cell? ⟨W0.heap.size, 1, none⟩ = _ := P0.out.box 1 _ rfl
             have y0 : ∀ o, (w5.alloc o).cell? ⟨W0.heap.size, 0, none⟩ = _ := fun o => Lib.cell?_alloc_some _ x0
             have y1 : ∀ o, (w5.alloc o).cell? ⟨W0.heap.size, 1, none⟩ = _ := fun o => Lib.cell?_alloc_some _ x1
             clear b5)))
      clear x0 x1 y0 y1
      have c2 : w6.cell? ⟨W0.heap.size, 2, none⟩ = _ := P1.out.box 2 _ rfl
      go_wp2_with fail
      clear c2 IX
      go_loopg [3, 31] xs.length (fun g vq i wq => ∃ q : Nat, q ≤ xs.length ∧ xs.length - q ≤ g ∧ i = .int .i64 q ∧ Aside (AP w.heap.size W0 u3 W0.heap.size [.int .i64 ek, .int .i64 ep, .slice oa xs.length oc] wq vq ((T ++ [wordT (evWord ek), numT ep]) ++ (xs.take q).flatMap opT)))
      case atStart => exact ⟨0, Nat.zero_le _, by omega, rfl, by rw [List.take_zero, List.flatMap_nil, List.append_nil]; exact P1.out⟩
      case round =>
        obtain ⟨q, hq, hgq, rfl, I⟩ := hrel
        have hLq : ((T ++ [wordT (evWord ek), numT ep]) ++ (xs.take q).flatMap opT).length ≤ 200000 := by
          have := ops_len (xs.take q) (fun o ho => (opOk_list (HOPS.out o (List.mem_of_mem_take ho)).2).1)
          rw [List.length_take] at this
          simp only [List.length_append, List.length_cons, List.length_nil]
          omega
        have BB : Hid (Below w.heap.size w wr) := BW.out.trans I.out.below
        by_cases hlq : q < xs.length
        · have hlqi : (q : Int) < (xs.length : Int) := by omega
          obtain ⟨b2, o2, cs2, rfl, hb2, _, ⟨l1, rfl, i1⟩, k1⟩ := RO.out q hlq
          have e0 : wr.cell? ⟨b2, o2 + q * 6, none⟩ = _ := (BB.out.cell (p := ⟨b2, o2 + q * 6, none⟩) hb2).trans (k1 0 _ rfl)
          have e1 := (BB.out.cell (p := ⟨b2, o2 + q * 6 + 1, none⟩) hb2).trans (k1 1 _ rfl)
          have e2 := (BB.out.cell (p := ⟨b2, o2 + q * 6 + 2, none⟩) hb2).trans (k1 2 _ rfl)
          have e3 := (BB.out.cell (p := ⟨b2, o2 + q * 6 + 3, none⟩) hb2).trans (k1 3 _ rfl)
          have e4 := (BB.out.cell (p := ⟨b2, o2 + q * 6 + 4, none⟩) hb2).trans (k1 4 _ rfl)
          have e5 := (BB.out.cell (p := ⟨b2, o2 + q * 6 + 5, none⟩) hb2).trans (k1 5 _ rfl)
          clear k1
          obtain ⟨hy1, hy2, hy3⟩ := opOk_list (HOPS.out _ (mem_at hlq)).2
          have HQ : Hid ((xs.take (q + 1)).flatMap opT = (xs.take q).flatMap opT ++ opT (xs.getD q default)) := take_flat opT hlq
          obtain ⟨al1, cl1, rfl, -⟩ := id i1
          have J1 : Hid (∀ o, IntsIn (fun b => b < w.heap.size) (wr.alloc o) _ (xs.getD q default).list) := fun o => i1.keep (fun b hb _ => ((BB.out.trans ((below_box wr o).mono BB.out.size)).block b hb)) (fun _ _ h => h)
          clear i1
          generalize xs.getD q default = Y at *
          have hYr := r_op hLq hy1
          have HY1 := hid hYr
          have HY2 : Hid (1 ≤ Y.kind ∧ Y.kind ≤ 4) := ⟨hy2, hy3⟩
          clear hYr hy1 hy2 hy3
          go_wp2_with fail
          refine (appendOp_any w.heap.size Y _ _ _ _ HY2.out (I.out.later (below_box wr _)).size (I.out.later (below_box wr _)).own HY1.out (J1.out _)).mono ?_
          rintro e w7 ⟨v7, rfl, own7, bl7, kp7, bk7⟩
          have I7 := hid (I.out.call (below_box wr _) own7 bl7 kp7 bk7)
          clear own7 bl7 kp7 bk7 e0 e1 e2 e3 e4 e5
          go_wp2_with fail
          go_roundg (xs.length - (q + 1))
          case measure => omega
          case rel => exact ⟨q + 1, by omega, by omega, by go_num, by rw [HQ.out, ← List.append_assoc]; exact I7.out⟩
        · have hq' : q = xs.length := by omega
          subst hq'
          rw [List.take_length] at I hLq
          have HE : Hid (((T ++ [wordT (evWord ek), numT ep]) ++ xs.flatMap opT) ++ [lineT] = T ++ evT (ek, ep, xs)) := by
            show _ = _
            simp [evT]
          generalize ((T ++ [wordT (evWord ek), numT ep]) ++ xs.flatMap opT) = L at *
          have hL1 : L.length + 1 ≤ 1000000 := r_line hLq
          have zA := hid (I.out.later (below_box wr (.cells #[.int .i64 4, .int .i64 0, .string ⟨#[]⟩, .int .i64 0] 38)))
          go_wp2_with (at_builtin; refine wpList_append_lies _ rfl _ _ 36 rfl w.heap.size 38 i0 _ 4 40 Tryd.underlying36 hi hz0 hz1 hz2 rfl (by decide) _ L.length _ rfl zA.out.own ⟨wr.heap.size, 0, none⟩ 1 1 [.int .i64 4, .int .i64 0, .string ⟨#[]⟩, .int .i64 0] rfl rfl (World.news_of_block (cs := #[.int .i64 4, .int .i64 0, .string ⟨#[]⟩, .int .i64 0]) (t := 38) (fr := (0, 0)) (heap_alloc_new wr _)) (by simp [Value.oneCell']) (by decide) (room_max hL1 mil) (room_le hL1 mil) zA.out.size (wr.heap.size + 1) (by simp) ?_; intro gz capz z hown hgrow hat hglt)
          have zP := hid (zA.out.grown (ts := [lineT]) (by simp) rfl hown hgrow (by simp) hat)
          clear hown hgrow hat hglt
          go_wp2_with fail
          go_roundg (l.length - (k + 1))
          case measure => omega
          case rel =>
            refine ⟨k + 1, by omega, by omega, by go_num, ?_, BW.out.trans zP.out.below⟩
            have hz := zP.out.own
            rw [HE.out, ← HTK.out] at hz
            exact hz
    · have hk' : k = l.length := by omega
      subst hk'
      rw [List.take_length] at O
      have hTl : (toksOf l).length ≤ 111300 := by
        have := toks_len l HALL.out
        omega
      have hsh := toks_short HALL.out HVF.out
      have hpl : (printL false (toksOf l)).length ≤ 140737488355328 := by
        have := print_short (toksOf l) false hsh
        omega
      have TK := hid (own_toks O.out (by omega))
      have HPL := hid hpl
      have HNM : Hid (NumsOk (toksOf l)) := fun t ht e => (hsh t ht).2 e
      clear hpl hsh
      go_wp2_with fail
      refine (print_any _ (toksOf l) _ TK.out (HT.out _ BW.out) HNM.out HPL.out).mono ?_
      rintro e w8 ⟨rfl, b8⟩
      have B8 : Hid (Below w.heap.size w w8) := BW.out.trans (b8.mono BW.out.size)
      clear b8
      go_wp2_with fail
      go_ret
      exact ⟨rfl, B8.out⟩

/-- The code's Print, at a history that may not be. -/
theorem printH_no (v : Value) (l : List MEv) (w : World) (te : TypeId) (pe : Value) (hv : w.cell? ⟨0, 0, none⟩ = some pe) (h : EvsIn Any w v l) (hc : canM l = false) :
    Calls Tryd.prog 7 #[v] w fun e w' => e = .returned (.string ⟨#[]⟩) ∧ Below w.heap.size w w' := by
  have HCAN := hid (can_any v l w te pe hv h)
  rw [hc] at HCAN
  obtain ⟨a1, c1, rfl, -⟩ := id h
  clear h hv hc
  go_enter Tryd.func7, Tryd.ntmps7
  go_wp2_with fail
  refine HCAN.out.mono ?_
  rintro e w1 ⟨rfl, b1⟩
  have B1 := hid b1
  clear b1
  go_wp2_with fail
  go_ret
  exact ⟨rfl, B1.out⟩
end Go.Proofs.YtlkmciegpmpbbaaDoor
