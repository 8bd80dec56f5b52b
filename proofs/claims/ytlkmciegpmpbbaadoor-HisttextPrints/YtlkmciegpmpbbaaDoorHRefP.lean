/-
  Walk of the reference's Print of histories.
-/
import Derived.Test.YtlkmciegpmpbbaaDoorHRefO1
import Derived.Test.YtlkmciegpmpbbaaDoorHRefO2
import Derived.Test.YtlkmciegpmpbbaaDoorHRefO3
import Derived.Test.YtlkmciegpmpbbaaDoorHRefO4
import Derived.Deep.RegionWith
namespace Go.Proofs.YtlkmciegpmpbbaaDoor
set_option linter.unusedVariables false
set_option linter.unusedSimpArgs false
open Go.RowKit

theorem refOp_any (o : MOp) (lv : Value) (w : World) (hk : keyOk o.key = true) (hv : inI o.value ∧ ∀ x ∈ o.list, inI x) (hok : opOk o = true) (hl : IntsIn Any w lv o.list) :
    Calls Tryd.prog 19 #[.agg #[.int .i64 o.kind, .string o.key, .int .i64 o.value, lv, .bool o.has, .bool o.nl]] w fun e w' => (∃ r : ByteArray, e = .returned (.string r) ∧ r.data.toList = refOp o ∧ r.size ≤ 2000) ∧ Below w.heap.size w w' := by
  obtain ⟨h40, h1, h4⟩ := opOk_list hok
  have hz := key_size hk
  obtain ⟨k, s, vl, il, hs, nl⟩ := o
  simp only [MOp.kind, MOp.key, MOp.value, MOp.list, MOp.has, MOp.nl] at *
  have h4' : k = 1 ∨ k = 2 ∨ k = 3 ∨ k = 4 := by omega
  rcases h4' with rfl | rfl | rfl | rfl
  · exact refOp_1 s vl il hs nl lv w hz hv.1 hv.2 h40 hok hl
  · exact refOp_2 s vl il hs nl lv w hz hv.1 hv.2 h40 hok hl
  · exact refOp_3 s vl il hs nl lv w hz hv.1 hv.2 h40 hok hl
  · exact refOp_4 s vl il hs nl lv w hz hv.1 hv.2 h40 hok hl

/-- The reference's words for kinds of events. -/
def evB (k : Int) : ByteArray := if k = 1 then ⟨#[105, 110, 118, 111, 107, 101, 32]⟩ else if k = 2 then ⟨#[111, 107, 32]⟩ else if k = 3 then ⟨#[102, 97, 105, 108, 32]⟩ else ⟨#[105, 110, 102, 111, 32]⟩
theorem evB_size (k : Int) : (evB k).size ≤ 7 := by
  unfold evB; split
  · decide
  · split
    · decide
    · split <;> decide
theorem evB_pre {k : Int} (h : 1 ≤ k ∧ k ≤ 4) : evPre k = (evB k).data.toList := by
  have h4 : k = 1 ∨ k = 2 ∨ k = 3 ∨ k = 4 := by omega
  rcases h4 with rfl | rfl | rfl | rfl <;> rfl
theorem evB_cell {k : Int} (h : 1 ≤ k ∧ k ≤ 4) (X : World) : (X.alloc (.cells #[.string ⟨#[]⟩, .string ⟨#[105, 110, 118, 111, 107, 101, 32]⟩, .string ⟨#[111, 107, 32]⟩, .string ⟨#[102, 97, 105, 108, 32]⟩, .string ⟨#[105, 110, 102, 111, 32]⟩] 9)).cell? ⟨X.heap.size, k.toNat, none⟩ = some (.string (evB k)) := by
  have h4 : k = 1 ∨ k = 2 ∨ k = 3 ∨ k = 4 := by omega
  rcases h4 with rfl | rfl | rfl | rfl <;> exact new_cells X _ 9 _

set_option maxHeartbeats 16000000 in
set_option maxRecDepth 100000 in
/-- The reference's Print, at a history that may be. -/
theorem refPrintH_yes (v : Value) (l : List MEv) (w : World) (h : EvsIn Any w v l) (hc : canM l = true) (hvf : ValsFit l) (hkf : KeysFit l) :
    Calls Tryd.prog 8 #[v] w fun e w' => (∃ r : ByteArray, e = .returned (.string r) ∧ r.data.toList = refText l) ∧ Below w.heap.size w w' := by
  have HCAN := hid (refCan_any v l w hkf h)
  rw [hc] at HCAN
  obtain ⟨hl3, hall⟩ := can_parts hc
  have HALL := hid hall
  have HVF := hid hvf
  obtain ⟨a1, c1, rfl, hbig, k0⟩ := RowsIn.cells h (by omega)
  have HC := hid k0
  clear k0 h hc hall hvf hkf
  go_enter Tryd.func8, Tryd.ntmps8
  go_wp2_with fail
  refine HCAN.out.mono ?_
  rintro e w1 ⟨rfl, b1⟩
  have B1 := hid b1
  clear b1
  go_wp2_with fail
  go_loopg [3, 13] l.length (fun g vs i wr => ∃ (k : Nat) (S : ByteArray), k ≤ l.length ∧ l.length - k ≤ g ∧ i = .int .i64 k ∧ vs = .string S ∧ S.size ≤ k * 20000 ∧ Aside (S.data.toList = refText (l.take k)) ∧ Aside (Below w.heap.size w wr))
  case atStart => exact ⟨0, ⟨#[]⟩, Nat.zero_le _, by omega, rfl, rfl, Nat.zero_le _, rfl, B1.out⟩
  case round =>
    obtain ⟨k, S, hk, hg, rfl, rfl, hSz, HS, BW⟩ := hrel
    generalize wr = W0 at *
    by_cases hlt : k < l.length
    · have hlti : (k : Int) < (l.length : Int) := by omega
      obtain ⟨b1, o1, cs1, rfl, hb1, _, ⟨ov, rfl, i1⟩, k1⟩ := HC.out k hlt
      have d0 : W0.cell? ⟨b1, o1 + k * 3, none⟩ = _ := (BW.out.cell (p := ⟨b1, o1 + k * 3, none⟩) hb1).trans (k1 0 _ rfl)
      have d1 := (BW.out.cell (p := ⟨b1, o1 + k * 3 + 1, none⟩) hb1).trans (k1 1 _ rfl)
      have d2 := (BW.out.cell (p := ⟨b1, o1 + k * 3 + 2, none⟩) hb1).trans (k1 2 _ rfl)
      clear k1
      have hsz := BW.out.size
      obtain ⟨oa, oc, rfl, _, ro⟩ := RowsIn.cells i1 (by omega)
      have RO := hid ro
      clear i1 ro
      obtain ⟨hh, hops⟩ := ev_parts (HALL.out _ (mem_at hlt))
      have HOV := hid (HVF.out _ (mem_at hlt))
      have HTK : Hid (refText (l.take (k + 1)) = refText (l.take k) ++ refEv (l.getD k default)) := take_flat refEv hlt
      generalize l.getD k default = X at *
      obtain ⟨ek, ep, xs⟩ := X
      simp only [MEv.kind, MEv.proc, MEv.ops] at *
      have hk14 : 1 ≤ ek ∧ ek ≤ 4 := ⟨hh.1, hh.2.1⟩
      have hpi : inI ep := ⟨by have := hh.2.2.1; simp only [MEv.proc] at this; omega, by have := hh.2.2.2.1; simp only [MEv.proc] at this; omega⟩
      have hx8 : xs.length ≤ 8 := hh.2.2.2.2.2
      have HOPS := hid hops
      clear hh hops
      have BX : Hid (Below w.heap.size w (W0.alloc (.cells #[.int .i64 ek, .int .i64 ep, .slice oa xs.length oc] 29))) := BW.out.trans ((below_box W0 _).mono hsz)
      have X0 : Hid ((W0.alloc (.cells #[.int .i64 ek, .int .i64 ep, .slice oa xs.length oc] 29)).cell? ⟨W0.heap.size, 0, none⟩ = some (.int .i64 ek)) := new_cells W0 _ 29 0
      have X1 : Hid ((W0.alloc (.cells #[.int .i64 ek, .int .i64 ep, .slice oa xs.length oc] 29)).cell? ⟨W0.heap.size, 1, none⟩ = some (.int .i64 ep)) := new_cells W0 _ 29 1
      have X2 : Hid ((W0.alloc (.cells #[.int .i64 ek, .int .i64 ep, .slice oa xs.length oc] 29)).cell? ⟨W0.heap.size, 2, none⟩ = some (.slice oa xs.length oc)) := new_cells W0 _ 29 2
      have hW0 : W0.heap.size < (W0.alloc (.cells #[.int .i64 ek, .int .i64 ep, .slice oa xs.length oc] 29)).heap.size := by simp
      go_wp2_with fail
      clear d0 d1 d2
      generalize W0.alloc (.cells #[.int .i64 ek, .int .i64 ep, .slice oa xs.length oc] 29) = w0 at BX X0 X1 X2 hW0 ⊢
      have HPK := hid (evB_pre hk14)
      have hBz := evB_size ek
      have LX := fun X => evB_cell hk14 X
      have i0 : (0 : Int) ≤ ek := by omega
      have i1 : ek < 5 := by omega
      generalize evB ek = E at *
      clear hk14
      have x0 : w0.cell? ⟨W0.heap.size, 0, none⟩ = some (.int .i64 ek) := X0.out
      have x1 : w0.cell? ⟨W0.heap.size, 1, none⟩ = some (.int .i64 ep) := X1.out
      have x2 : w0.cell? ⟨W0.heap.size, 2, none⟩ = some (.slice oa xs.length oc) := X2.out
      have y0 : ∀ o, (w0.alloc o).cell? ⟨W0.heap.size, 0, none⟩ = some (.int .i64 ek) := fun o => Lib.cell?_alloc_some _ x0
      have y1 : ∀ o, (w0.alloc o).cell? ⟨W0.heap.size, 1, none⟩ = some (.int .i64 ep) := fun o => Lib.cell?_alloc_some _ x1
      have y2 : ∀ o, (w0.alloc o).cell? ⟨W0.heap.size, 2, none⟩ = some (.slice oa xs.length oc) := fun o => Lib.cell?_alloc_some _ x2
      go_region_with (first
        | (go_at_call 18
           refine (decimal_any ep _ hpi.1 hpi.2).mono ?_
           rintro e w5 ⟨⟨D, rfl, hD⟩, b5⟩
           have B5 : Hid (Below w0.heap.size w0 w5) := bl_tr (by repeat (first | exact Below.refl _ _ | apply Below.drew | refine Below.alloc ?_ (by simp) _)) b5
           have x0 : w5.cell? ⟨W0.heap.size, 0, none⟩ = some (.int .i64 ek) := (B5.out.cell (p := ⟨W0.heap.size, 0, none⟩) hW0).trans X0.out
           have y0 : ∀ o, (w5.alloc o).cell? ⟨W0.heap.size, 0, none⟩ = some (.int .i64 ek) := fun o => Lib.cell?_alloc_some _ x0
           have x1 : w5.cell? ⟨W0.heap.size, 1, none⟩ = some (.int .i64 ep) := (B5.out.cell (p := ⟨W0.heap.size, 1, none⟩) hW0).trans X1.out
           have y1 : ∀ o, (w5.alloc o).cell? ⟨W0.heap.size, 1, none⟩ = some (.int .i64 ep) := fun o => Lib.cell?_alloc_some _ x1
           have x2 : w5.cell? ⟨W0.heap.size, 2, none⟩ = some (.slice oa xs.length oc) := (B5.out.cell (p := ⟨W0.heap.size, 2, none⟩) hW0).trans X2.out
           have y2 : ∀ o, (w5.alloc o).cell? ⟨W0.heap.size, 2, none⟩ = some (.slice oa xs.length oc) := fun o => Lib.cell?_alloc_some _ x2
           have s0 := fun h => b5.cell (p := ⟨w0.heap.size, ek.toNat, none⟩) h
           have hDz := dec_text hpi hD
           obtain ⟨A1, t1, z1, p1⟩ := cat E D (by omega)
           obtain ⟨A2, t2, z2, p2⟩ := cat S A1 (by omega)
           have HA2 : Hid (A2.data.toList = refText (l.take k) ++ (evPre ek ++ decimal ep)) := by show A2.data.toList = _; rw [t2.out, HS.out, t1.out, hD, HPK.out]
           clear b5 hD t1 t2))
      all_goals (
        go_wp2_with fail
        go_loopg [3, 31] xs.length (fun g vs i wq => ∃ (q : Nat) (Sq : ByteArray), q ≤ xs.length ∧ xs.length - q ≤ g ∧ i = .int .i64 q ∧ vs = .string Sq ∧ Sq.size ≤ k * 20000 + 30 + q * 2001 ∧ Aside (Sq.data.toList = (refText (l.take k) ++ (evPre ek ++ decimal ep)) ++ (xs.take q).flatMap (fun o => 32 :: refOp o)) ∧ Aside (Below w.heap.size w wq))
        case atStart => exact ⟨0, A2, Nat.zero_le _, by omega, rfl, rfl, by omega, by rw [List.take_zero, List.flatMap_nil, List.append_nil]; exact HA2.out, BX.out.trans (Below.mono (by first | exact B5.out | exact B5.out.drew | exact (B5.out.alloc B5.out.size _) | exact (B5.out.alloc B5.out.size _).drew | (repeat (first | exact B5.out | apply Below.drew | refine Below.alloc ?_ (by simp; exact B5.out.size) _))) BX.out.size)⟩
        case round =>
          obtain ⟨q, Sq, hq, hgq, rfl, rfl, hQz, HQ, BQ⟩ := hrel
          by_cases hlq : q < xs.length
          · have hlqi : (q : Int) < (xs.length : Int) := by omega
            obtain ⟨b2, o2, cs2, rfl, hb2, _, ⟨l1, rfl, i1⟩, k1⟩ := RO.out q hlq
            have e0 : wr.cell? ⟨b2, o2 + q * 6, none⟩ = _ := (BQ.out.cell (p := ⟨b2, o2 + q * 6, none⟩) hb2).trans (k1 0 _ rfl)
            have e1 := (BQ.out.cell (p := ⟨b2, o2 + q * 6 + 1, none⟩) hb2).trans (k1 1 _ rfl)
            have e2 := (BQ.out.cell (p := ⟨b2, o2 + q * 6 + 2, none⟩) hb2).trans (k1 2 _ rfl)
            have e3 := (BQ.out.cell (p := ⟨b2, o2 + q * 6 + 3, none⟩) hb2).trans (k1 3 _ rfl)
            have e4 := (BQ.out.cell (p := ⟨b2, o2 + q * 6 + 4, none⟩) hb2).trans (k1 4 _ rfl)
            have e5 := (BQ.out.cell (p := ⟨b2, o2 + q * 6 + 5, none⟩) hb2).trans (k1 5 _ rfl)
            clear k1
            obtain ⟨hyk, hyo⟩ := HOPS.out _ (mem_at hlq)
            have hyv := HOV.out _ (mem_at hlq)
            have HTQ : Hid ((xs.take (q + 1)).flatMap (fun o => 32 :: refOp o) = (xs.take q).flatMap (fun o => 32 :: refOp o) ++ (32 :: refOp (xs.getD q default))) := take_flat (fun o => 32 :: refOp o) hlq
            obtain ⟨al1, cl1, rfl, -⟩ := id i1
            have J1 : Hid (∀ o, IntsIn Any (wr.alloc o) _ (xs.getD q default).list) := fun o => i1.keep (keeps_below (BQ.out.trans ((below_box wr o).mono BQ.out.size))) (fun _ _ _ => trivial)
            clear i1
            generalize xs.getD q default = Y at *
            have HY := hid (And.intro hyk (And.intro hyv hyo))
            clear hyk hyv hyo
            go_wp2_with fail
            refine (refOp_any Y _ _ HY.out.1 HY.out.2.1 HY.out.2.2 (J1.out _)).mono ?_
            rintro e w7 ⟨⟨R, rfl, hR, hRz⟩, b7⟩
            have B7 : Hid (Below w.heap.size w w7) := (BQ.out.trans ((below_box wr _).mono BQ.out.size)).trans (b7.mono (by have := BQ.out.size; simp; omega))
            obtain ⟨A5, t5, z5, p5⟩ := cat ⟨#[32]⟩ R (by show 1 + R.size ≤ _; omega)
            have z5' : A5.size = 1 + R.size := z5
            obtain ⟨A6, t6, z6, p6⟩ := cat Sq A5 (by omega)
            have HT6 : Hid (A6.data.toList = (refText (l.take k) ++ (evPre ek ++ decimal ep)) ++ (xs.take (q + 1)).flatMap (fun o => 32 :: refOp o)) := by show A6.data.toList = _; rw [t6.out, HQ.out, t5.out, hR, HTQ.out]; simp
            clear b7 hR t5 t6 z5 e0 e1 e2 e3 e4 e5
            go_wp2_with fail
            go_roundg (xs.length - (q + 1))
            case measure => omega
            case rel => exact ⟨q + 1, A6, by omega, by omega, by go_num, rfl, by omega, HT6.out, B7.out⟩
          · have hq' : q = xs.length := by omega
            subst hq'
            rw [List.take_length] at HQ
            obtain ⟨A7, t7, z7, p7⟩ := cat Sq ⟨#[10]⟩ (by show Sq.size + 1 ≤ _; omega)
            have z7' : A7.size = Sq.size + 1 := z7
            have HT7 : Hid (A7.data.toList = refText (l.take (k + 1))) := by show A7.data.toList = _; rw [t7.out, HQ.out, HTK.out]; simp [refEv, MEv.kind, MEv.proc, MEv.ops]
            clear t7 z7
            go_wp2_with fail
            go_roundg (l.length - (k + 1))
            case measure => omega
            case rel => exact ⟨k + 1, A7, by omega, by omega, by go_num, rfl, by omega, HT7.out, BQ.out⟩)
    · have hk' : k = l.length := by omega
      subst hk'
      rw [List.take_length] at HS
      go_wp2_with fail
      go_ret
      exact ⟨⟨S, rfl, HS.out⟩, BW.out⟩

/-- The reference's Print, at a history that may not be. -/
theorem refPrintH_no (v : Value) (l : List MEv) (w : World) (h : EvsIn Any w v l) (hc : canM l = false) (hkf : KeysFit l) :
    Calls Tryd.prog 8 #[v] w fun e w' => e = .returned (.string ⟨#[]⟩) ∧ Below w.heap.size w w' := by
  have HCAN := hid (refCan_any v l w hkf h)
  rw [hc] at HCAN
  obtain ⟨a1, c1, rfl, -⟩ := id h
  clear h hc
  go_enter Tryd.func8, Tryd.ntmps8
  go_wp2_with fail
  refine HCAN.out.mono ?_
  rintro e w1 ⟨rfl, b1⟩
  have B1 := hid b1
  clear b1
  go_wp2_with fail
  go_ret
  exact ⟨rfl, B1.out⟩
end Go.Proofs.YtlkmciegpmpbbaaDoor
