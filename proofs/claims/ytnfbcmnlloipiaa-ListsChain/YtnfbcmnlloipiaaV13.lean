/-
  The dependencies of a look.
  Edges, where the trace can be trusted.
  A serial history of lists, plain: nothing is wrong with it, and its dependencies lead on.
-/
import Derived.Test.YtnfbcmnlloipiaaV12
namespace Go.Proofs.Ytnfbcmnlloipiaa
set_option linter.unusedVariables false
set_option linter.unusedSimpArgs false
open Go.RowKit Go.Lib Go.Maps

abbrev srcT (F : Int → Option MSrc) (x : Int) : Nat := ((F x).getD noSrc).1
def wwE (F : Int → Option MSrc) (s : ByteArray) (ts : List Int) (i : Nat) : MWy := ((srcT F (ts.getD i default) : Int), (srcT F (ts.getD (i + 1) default) : Int), 1, s, ts.getD i default, ts.getD (i + 1) default, false)
def wrE (F : Int → Option MSrc) (s : ByteArray) (r : MRx) : List MWy := if r.2.2.length = 0 then [] else [((srcT F (r.2.2.getD (r.2.2.length - 1) default) : Int), (r.1 : Int), 2, s, r.2.2.getD (r.2.2.length - 1) default, 0, false)]
def rwE (F : Int → Option MSrc) (s : ByteArray) (ts : List Int) (r : MRx) : List MWy := if r.2.2.length < ts.length then [((r.1 : Int), (srcT F (ts.getD r.2.2.length default) : Int), 4, s, (if r.2.2.length = 0 then 0 else r.2.2.getD (r.2.2.length - 1) default), ts.getD r.2.2.length default, decide (r.2.2.length = 0))] else []
/-- All that a trace forces, in the order in which it is told. -/
def depsL (F : Int → Option MSrc) (s : ByteArray) (ts : List Int) (RX : List MRx) : List MWy := (List.range (ts.length - 1)).map (wwE F s ts) ++ (RX.flatMap (wrE F s) ++ RX.flatMap (rwE F s ts))
def ww1 (F : Int → Option MSrc) (s : ByteArray) (ts : List Int) (i : Nat) : List MWy := ((List.range i).map (wwE F s ts)).foldl stepW []
def wr1 (F : Int → Option MSrc) (s : ByteArray) (ts : List Int) (RX : List MRx) (q : Nat) : List MWy := ((RX.take q).flatMap (wrE F s)).foldl stepW (ww1 F s ts (ts.length - 1))
def rw1 (F : Int → Option MSrc) (s : ByteArray) (ts : List Int) (RX : List MRx) (q : Nat) : List MWy := ((RX.take q).flatMap (rwE F s ts)).foldl stepW (wr1 F s ts RX RX.length)
theorem ww1_next (F : Int → Option MSrc) (s : ByteArray) (ts : List Int) (i : Nat) : ww1 F s ts (i + 1) = stepW (ww1 F s ts i) (wwE F s ts i) := by
  unfold ww1
  rw [List.range_succ, List.map_append, List.foldl_append]
  rfl
theorem take_flat {α β : Type} [Inhabited α] (g : α → List β) (RX : List α) (q : Nat) (hq : q < RX.length) : (RX.take (q + 1)).flatMap g = (RX.take q).flatMap g ++ g (RX.getD q default) := by
  rw [List.take_add_one, List.flatMap_append, List.getElem?_eq_getElem hq]
  simp [List.getD, List.getElem?_eq_getElem hq]
theorem wr1_next (F : Int → Option MSrc) (s : ByteArray) (ts : List Int) (RX : List MRx) (q : Nat) (hq : q < RX.length) : wr1 F s ts RX (q + 1) = (wrE F s (RX.getD q default)).foldl stepW (wr1 F s ts RX q) := by
  unfold wr1
  rw [take_flat _ _ _ hq, List.foldl_append]
theorem rw1_next (F : Int → Option MSrc) (s : ByteArray) (ts : List Int) (RX : List MRx) (q : Nat) (hq : q < RX.length) : rw1 F s ts RX (q + 1) = (rwE F s ts (RX.getD q default)).foldl stepW (rw1 F s ts RX q) := by
  unfold rw1
  rw [take_flat _ _ _ hq, List.foldl_append]
theorem once_deps (F : Int → Option MSrc) (s : ByteArray) (ts : List Int) (RX : List MRx) : onceW (depsL F s ts RX) = rw1 F s ts RX RX.length := by
  unfold onceW depsL rw1 wr1 ww1
  rw [List.foldl_append, List.foldl_append, List.take_length]
/-- What Edges holds, whatever it is. -/
def TeE (B lb mb hb N : Nat) (out : List MWy) (w : World) : Prop := ∃ rv c n, Te B lb mb hb N out rv c n w ∧ ∀ x, 0 < c x ↔ x ∈ out
theorem tell_e (B lb mb hb N : Nat) (out : List MWy) (w0 w : World) (h : TeE B lb mb hb N out w) (hN : N ≤ 900000) (y : MWy) (hy : WyOk y) (hw : Below w0.heap.size w0 w) (hl : w0.heap.size ≤ lb) (hh : w0.heap.size ≤ hb) (hB : w0.heap.size ≤ B) : Calls Try.prog 46 #[whyV y, .pointer (some ⟨mb, 0, none⟩), .pointer (some ⟨lb, 0, none⟩)] w fun e w' => e = .returned (.tuple #[]) ∧ TeE B lb mb hb (N + 2) (stepW out y) w' ∧ Below w0.heap.size w0 w' := by
  obtain ⟨rv, c, n, h1, h2⟩ := h
  refine (tell_is B lb mb hb N out rv c n w h1 h2 hN y hy).mono ?_
  rintro e w' ⟨rfl, h3, h4⟩
  exact ⟨rfl, h3, hw.trans (h4.below hw.size (fun i hi c => by rcases c with c | c | c <;> omega))⟩
theorem TeE.later {B lb mb hb N : Nat} {out : List MWy} {w w' : World} (h : TeE B lb mb hb N out w) (hb' : Below w.heap.size w w') : TeE B lb mb hb N out w' := by
  obtain ⟨rv, c, n, h1, h2⟩ := h
  exact ⟨rv, c, n, h1.later hb', h2⟩
theorem wf_nat (n : Nat) (h : n < 1000000) : (Lit.int .i64 (n : Int)).wf = true := by
  have a : IntKind.i64.min = -9223372036854775808 := by decide
  have b : IntKind.i64.max = 9223372036854775807 := by decide
  simp [Lit.wf, a, b]
  omega
set_option maxHeartbeats 16000000 in
set_option maxRecDepth 100000 in
theorem deps_is (K : Knw) (Bk kb sb n B lb mb hb : Nat) (s : ByteArray) (rv : Value) (R : List MRd) (RX : List MRx) (t2 : Nat) (ta : Option Addr) (tc : Nat) (w0 w : World) (h : Lg Bk w0 kb s rv R (K.ti, t2, ta, K.ts.length, tc) sb) (hR : Rds w0 R RX) (hRl : RX.length ≤ 100000) (hts : IntsIn Any w0 (.slice ta K.ts.length tc) K.ts) (htw : ∀ x ∈ K.ts, (Lit.int .i64 x).wf = true) (htl : K.ts.length ≤ 100000) (hrt : ∀ r ∈ RX, r.1 < 1000000 ∧ (∀ x ∈ r.2.2, (Lit.int .i64 x).wf = true) ∧ r.2.2.length ≤ 100000) (hs : Sc w0 sb n K.f) (hss : s.size ≤ maxLen) (hfb : ∀ x, ((K.f x).getD noSrc).1 < 1000000) (hT : TeE B lb mb hb 0 [] w) (hw : Below w0.heap.size w0 w) (hl : w0.heap.size ≤ lb) (hh : w0.heap.size ≤ hb) (hB : w0.heap.size ≤ B) : Calls Try.prog 45 #[.pointer (some ⟨kb, 0, none⟩), .func (.func 46) #[] #[.pointer (some ⟨mb, 0, none⟩), .pointer (some ⟨lb, 0, none⟩)]] w fun e w' => e = .returned (.tuple #[]) ∧ TeE B lb mb hb 800000 (onceW (depsL K.f s K.ts RX)) w' ∧ Below w0.heap.size w0 w' := by
  have TL : Hid (∀ N out W y, TeE B lb mb hb N out W → N ≤ 900000 → WyOk y → Below w0.heap.size w0 W → Calls Try.prog 46 #[whyV y, .pointer (some ⟨mb, 0, none⟩), .pointer (some ⟨lb, 0, none⟩)] W fun e w' => e = .returned (.tuple #[]) ∧ TeE B lb mb hb (N + 2) (stepW out y) w' ∧ Below w0.heap.size w0 w') := fun N out W y h1 h2 h3 h4 => tell_e B lb mb hb N out w0 W h1 h2 y h3 h4 hl hh hB
  have H := hid h
  have HR := hid hR
  have HTS := hid hts
  have HTW : Hid (∀ i, i < K.ts.length → (Lit.int .i64 (K.ts.getD i default)).wf = true) := fun i hi => htw _ (by simp [List.getD, List.getElem?_eq_getElem hi])
  have HRT := hid hrt
  have HS := hid hs
  have HFB := hid hfb
  have HSS := hid hss
  have T0 := hid hT
  have BW := hid hw
  have OD := hid (once_deps K.f s K.ts RX)
  obtain ⟨ra, rc, hrv⟩ := own_slice h.own
  subst hrv
  have hkb : kb < w0.heap.size := blt h.box
  have BOX : Hid (∀ W, Below w0.heap.size w0 W → W.cell? ⟨kb, 0, none⟩ = some (.string s) ∧ W.cell? ⟨kb, 1, none⟩ = some (.slice ra R.length rc) ∧ W.cell? ⟨kb, 4, none⟩ = some (.slice ta K.ts.length tc) ∧ W.cell? ⟨kb, 5, none⟩ = some (.map (some sb))) := fun W hb => by
    have bx := (hb.block kb hkb).trans H.out.box
    exact ⟨Lib.cell_of_heap bx 0, Lib.cell_of_heap bx 1, Lib.cell_of_heap bx 4, Lib.cell_of_heap bx 5⟩
  have LOOK : Hid (∀ W, Below w0.heap.size w0 W → ∀ x, (Lit.int .i64 x).wf = true → (Instr.lookup 78 (.map (some sb)) (.int .i64 x) false).run Try.prog W = .ok (srcV ((K.f x).getD noSrc)) W) := fun W hb x hx => by
    obtain ⟨F, hF, _⟩ := id HS.out
    exact (HS.out.same (hb.block sb hF.lt)).look x hx
  have TC : Hid (∀ W, Below w0.heap.size w0 W → ∀ i, i < K.ts.length → ∃ tb to, ta = some ⟨tb, to, none⟩ ∧ W.cell? ⟨tb, to + i, none⟩ = some (.int .i64 (K.ts.getD i default))) := fun W hb i hi => by
    obtain ⟨ao, c', hv, _, hc⟩ := id HTS.out
    cases hv
    obtain ⟨b, off, e, _, h3⟩ := hc (by omega)
    exact ⟨b, off, e, (hb.cell (p := ⟨b, off + i, none⟩) (World.block_lt_of_cell? _ _ (h3 i hi))).trans (h3 i hi)⟩
  have hlen := hR.len
  have HLEN := hid hlen
  have hti : (K.ts.length : Int) ≤ 100000 := by omega
  clear h hR hts htw hrt hs hfb hss hT hw hl hh hB hlen
  obtain ⟨k0, _, k4, _⟩ := BOX.out w BW.out
  go_enter Try.func45, Try.ntmps45
  go_wp2_with fail
  clear k0 k4
  go_loopg [5, 6, 7] K.ts.length (fun gg i _ _ wr => ∃ k : Nat, k ≤ K.ts.length - 1 ∧ K.ts.length - 1 - k ≤ gg ∧ i = .int .i64 ((k : Int) + 1) ∧ Aside (Below w0.heap.size w0 wr) ∧ Aside (TeE B lb mb hb (2 * k) (ww1 K.f s K.ts k) wr))
  case atStart => exact ⟨0, Nat.zero_le _, by omega, rfl, BW.out, T0.out⟩
  case round =>
    obtain ⟨k, hk, hgk, rfl, BR, TR⟩ := hrel
    by_cases hlt : k + 1 < K.ts.length
    · have hlti : (k : Int) + 1 < K.ts.length := by omega
      obtain ⟨tb, to, rfl, xa⟩ := TC.out wr BR.out k (by omega)
      obtain ⟨tb', to', hta, xb⟩ := TC.out wr BR.out (k + 1) hlt
      cases hta
      obtain ⟨k0, _, k4, k5⟩ := BOX.out wr BR.out
      have la := LOOK.out wr BR.out (K.ts.getD k default) (HTW.out k (by omega))
      have lb' := LOOK.out wr BR.out (K.ts.getD (k + 1) default) (HTW.out (k + 1) hlt)
      have WN := hid (ww1_next K.f s K.ts k)
      have HWE : Hid (wwE K.f s K.ts k = ((srcT K.f (K.ts.getD k default) : Int), (srcT K.f (K.ts.getD (k + 1) default) : Int), 1, s, K.ts.getD k default, K.ts.getD (k + 1) default, false)) := rfl
      have fa := HFB.out (K.ts.getD k default)
      have fb := HFB.out (K.ts.getD (k + 1) default)
      have wa := HTW.out k (by omega)
      have wb := HTW.out (k + 1) hlt
      have LKA : Hid (∀ W, Below w0.heap.size w0 W → (Instr.lookup 78 (.map (some sb)) (.int .i64 (K.ts.getD k default)) false).run Try.prog W = .ok (srcV ((K.f (K.ts.getD k default)).getD noSrc)) W) := fun W hb => LOOK.out W hb _ wa
      have LKB : Hid (∀ W, Below w0.heap.size w0 W → (Instr.lookup 78 (.map (some sb)) (.int .i64 (K.ts.getD (k + 1) default)) false).run Try.prog W = .ok (srcV ((K.f (K.ts.getD (k + 1) default)).getD noSrc)) W) := fun W hb => LOOK.out W hb _ wb
      unfold srcT at HWE
      generalize K.ts.getD k default = XA at *
      generalize K.ts.getD (k + 1) default = XB at *
      generalize (K.f XA).getD noSrc = ya at *
      generalize (K.f XB).getD noSrc = yb at *
      obtain ⟨a1, a2, a3, a4⟩ := ya
      obtain ⟨b1, b2, b3, b4⟩ := yb
      simp only [srcV] at LKA LKB HWE fa fb
      have TLk : Hid (∀ W, TeE B lb mb hb (2 * k) (ww1 K.f s K.ts k) W → Below w0.heap.size w0 W → Calls Try.prog 46 #[.agg #[.int .i64 (a1 : Int), .int .i64 (b1 : Int), .int .i64 1, .string s, .int .i64 XA, .int .i64 XB, .bool false, .bool false], .pointer (some ⟨mb, 0, none⟩), .pointer (some ⟨lb, 0, none⟩)] W fun e w' => e = .returned (.tuple #[]) ∧ TeE B lb mb hb (2 * (k + 1)) (ww1 K.f s K.ts (k + 1)) w' ∧ Below w0.heap.size w0 w') := fun W h1 h2 => by
        have q := TL.out (2 * k) _ W ((a1 : Int), (b1 : Int), 1, s, XA, XB, false) h1 (by omega) ⟨wf_nat _ fa, wf_nat _ fb, (show (Lit.int .i64 1).wf = true from by decide), HSS.out, wa, wb⟩ h2
        rw [WN.out, HWE.out]
        exact q
      have FLA : ∀ W : World, (Instr.field 123 (.agg #[.int .i64 (a1 : Int), .int .i64 (a2 : Int), .bool a3, .bool a4]) 0).run Try.prog W = .ok (.int .i64 (a1 : Int)) W := fun W => by kernel_rfl
      have FLB : ∀ W : World, (Instr.field 123 (.agg #[.int .i64 (b1 : Int), .int .i64 (b2 : Int), .bool b3, .bool b4]) 0).run Try.prog W = .ok (.int .i64 (b1 : Int)) W := fun W => by kernel_rfl
      clear WN HWE fa fb wa wb la lb'
      go_wp2_with fail
      go_quiet (fail)
      obtain ⟨W, hW⟩ : ∃ W, wr.drewN nq = W := ⟨_, rfl⟩
      have BRW : Hid (Below w0.heap.size w0 W) := by rw [← hW]; exact ⟨BR.out.os, BR.out.tape, BR.out.output, BR.out.size, BR.out.block⟩
      have TW : Hid (TeE B lb mb hb (2 * k) (ww1 K.f s K.ts k) W) := by
        rw [← hW]
        exact TR.out.later ⟨rfl, rfl, rfl, Nat.le_refl _, fun _ _ => rfl⟩
      rw [hW]
      clear hW xa xb k0 k4 k5
      obtain ⟨k0, _, _, k5⟩ := BOX.out W BRW.out
      have BRN : ∀ n, Hid (Below w0.heap.size w0 (W.drewN n)) := fun n => ⟨BRW.out.os, BRW.out.tape, BRW.out.output, BRW.out.size, BRW.out.block⟩
      have lA := fun n => LKA.out (W.drewN n) (BRN n).out
      have lB := fun n => LKB.out (W.drewN n) (BRN n).out
      go_wp2_with fail
      refine wp_region_last 59 22 _ Try.mixedOrders rfl rfl rfl rfl (by kernel_rfl) (by kernel_rfl) (by kernel_rfl) ?_
      simp only [tailMove]
      repeat (go_big_quiet_step (fail))
      refine wpQuiet_nil ?_
      intro w' hw'
      obtain ⟨nq2, rfl⟩ := hw'
      go_simp
      refine (TLk.out (W.drewN nq2) (TW.out.later ⟨rfl, rfl, rfl, Nat.le_refl _, fun _ _ => rfl⟩) (BRN nq2).out).mono ?_
      rintro e w5 ⟨rfl, t5, b5⟩
      have T5 := hid t5
      have B5 := hid b5
      clear t5 b5
      go_wp2_with fail
      go_roundg (K.ts.length - 1 - (k + 1))
      case measure => omega
      case rel => exact ⟨k + 1, by omega, by omega, by go_num, B5.out, T5.out⟩
    · have hke : k = K.ts.length - 1 := by omega
      have hlti : ¬ (k : Int) + 1 < K.ts.length := by omega
      have TS : Hid (TeE B lb mb hb (2 * K.ts.length) (wr1 K.f s K.ts RX 0) wr) := by
        obtain ⟨rv', c', n', q1, q2⟩ := TR.out
        rw [hke] at q1 q2
        exact ⟨rv', c', n', q1.relax (by omega), q2⟩
      have BS := hid BR.out
      obtain ⟨_, k1, _, _⟩ := BOX.out wr BR.out
      have hRn : R.length ≤ 100000 := by rw [HLEN.out]; exact hRl
      have hRi : (R.length : Int) ≤ 100000 := by omega
      have RC : Hid (∀ W, Below w0.heap.size w0 W → ∀ q, q < R.length → ∃ g la lc, ra = some ⟨g, 0, none⟩ ∧ W.cell? ⟨g, q * 3, none⟩ = some (.int .i64 (RX.getD q default).1) ∧ W.cell? ⟨g, q * 3 + 1, none⟩ = some (.int .i64 (RX.getD q default).2.1) ∧ W.cell? ⟨g, q * 3 + 2, none⟩ = some (.slice la (RX.getD q default).2.2.length lc) ∧ IntsIn Any w0 (.slice la (RX.getD q default).2.2.length lc) (RX.getD q default).2.2) := fun W hb q hq => by
        obtain ⟨g, c', hv⟩ := own_some H.out.own (by omega)
        cases hv
        have hgl : g < w0.heap.size := (own_block H.out.own rfl).2.1
        obtain ⟨la, lc, hRq, hin, _⟩ := HR.out.at' q hq
        have ce : ∀ i u, i < 3 → (rdVs (R.getD q default))[i]? = some u → W.cell? ⟨g, q * 3 + i, none⟩ = some u := fun i u hi hu => (hb.cell (p := ⟨g, q * 3 + i, none⟩) hgl).trans ((H.out.own.cellAt (q * 3 + i) (by omega)).trans ((rdC_at R q i hq hi).trans hu))
        rw [hRq] at ce
        exact ⟨g, la, lc, rfl, ce 0 _ (by omega) rfl, ce 1 _ (by omega) rfl, ce 2 _ (by omega) rfl, hin⟩
      clear TR BR hke
      go_wp2_with fail
      clear k1
      go_loopg [9, 10, 11, 65] R.length (fun gg _ _ _ i wr => ∃ q : Nat, q ≤ R.length ∧ R.length - q ≤ gg ∧ i = .int .i64 q ∧ Aside (Below w0.heap.size w0 wr) ∧ Aside (TeE B lb mb hb (2 * K.ts.length + 2 * q) (wr1 K.f s K.ts RX q) wr))
      case atStart => exact ⟨0, Nat.zero_le _, by omega, rfl, BS.out, TS.out⟩
      case round =>
        obtain ⟨q, hq, hgq, rfl, BR, TR⟩ := hrel
        by_cases hq1 : q < R.length
        · have hq1i : (q : Int) < R.length := by omega
          have hqx : q < RX.length := by rw [← HLEN.out]; exact hq1
          obtain ⟨g, la, lc, rfl, y0, y1, y2, hin⟩ := RC.out wr BR.out q hq1
          have WN := hid (wr1_next K.f s K.ts RX q hqx)
          have hrt := HRT.out (RX.getD q default) (by simp [List.getD, List.getElem?_eq_getElem hqx])
          generalize RX.getD q default = r at *
          obtain ⟨ri, rj, xs⟩ := r
          simp only at y0 y1 y2 hin hrt
          have HIN := hid hin
          have HRI := hid hrt
          clear hin hrt
          have BA : ∀ o, Hid (Below w0.heap.size w0 (wr.alloc o)) := fun o => BR.out.trans ((below_box wr o).mono BR.out.size)
          by_cases hx0 : xs.length = 0
          · have LA : Hid (∀ o, Calls Try.prog 78 #[.slice la 0 lc] (wr.alloc o) fun e w' => e = .returned (.tuple #[.int .i64 0, .bool false]) ∧ wr.alloc o = w') := fun o => last_0 _ _ _
            have WE : Hid (wr1 K.f s K.ts RX (q + 1) = wr1 K.f s K.ts RX q) := by show _ = _; rw [WN.out]; simp [wrE, hx0]
            rw [hx0] at y2
            clear hx0 HIN HRI WN
            go_wp2_with (go_at_call 78; refine (LA.out _).mono ?_; rintro e w' ⟨rfl, rfl⟩)
            go_roundg (R.length - (q + 1))
            case measure => omega
            case rel =>
              refine ⟨q + 1, by omega, by omega, by go_num, (BA _).out, (show Aside _ from ?_)⟩
              rw [WE.out]
              obtain ⟨rv', c', n', q1, q2⟩ := TR.out.later (below_box wr _)
              exact ⟨rv', c', n', q1.relax (by omega), q2⟩
          · have hx1 : 0 < xs.length := by omega
            have LA : Hid (∀ o, Calls Try.prog 78 #[.slice la xs.length lc] (wr.alloc o) fun e w' => e = .returned (.tuple #[.int .i64 (xs.getD (xs.length - 1) default), .bool true]) ∧ wr.alloc o = w') := fun o => last_is _ xs _ (HIN.out.below (BA o).out) hx1
            have WE : Hid (wr1 K.f s K.ts RX (q + 1) = stepW (wr1 K.f s K.ts RX q) ((srcT K.f (xs.getD (xs.length - 1) default) : Int), (ri : Int), 2, s, xs.getD (xs.length - 1) default, 0, false)) := by show _ = _; rw [WN.out]; simp [wrE, hx0]
            have wx : (Lit.int .i64 (xs.getD (xs.length - 1) default)).wf = true := HRI.out.2.1 _ (by simp [List.getD, List.getElem?_eq_getElem (show xs.length - 1 < xs.length by omega)])
            have fa := HFB.out (xs.getD (xs.length - 1) default)
            have LKA : Hid (∀ W, Below w0.heap.size w0 W → (Instr.lookup 78 (.map (some sb)) (.int .i64 (xs.getD (xs.length - 1) default)) false).run Try.prog W = .ok (srcV ((K.f (xs.getD (xs.length - 1) default)).getD noSrc)) W) := fun W hb => LOOK.out W hb _ wx
            unfold srcT at WE
            generalize xs.getD (xs.length - 1) default = XA at *
            generalize (K.f XA).getD noSrc = ya at *
            obtain ⟨a1, a2, a3, a4⟩ := ya
            simp only [srcV] at LKA WE fa
            have TLk : Hid (∀ W, TeE B lb mb hb (2 * K.ts.length + 2 * q) (wr1 K.f s K.ts RX q) W → Below w0.heap.size w0 W → Calls Try.prog 46 #[.agg #[.int .i64 (a1 : Int), .int .i64 (ri : Int), .int .i64 2, .string s, .int .i64 XA, .int .i64 0, .bool false, .bool false], .pointer (some ⟨mb, 0, none⟩), .pointer (some ⟨lb, 0, none⟩)] W fun e w' => e = .returned (.tuple #[]) ∧ TeE B lb mb hb (2 * K.ts.length + 2 * (q + 1)) (wr1 K.f s K.ts RX (q + 1)) w' ∧ Below w0.heap.size w0 w') := fun W h1 h2 => by
              have qq := TL.out (2 * K.ts.length + 2 * q) _ W ((a1 : Int), (ri : Int), 2, s, XA, 0, false) h1 (by omega) ⟨wf_nat _ fa, wf_nat _ HRI.out.1, (show (Lit.int .i64 2).wf = true from by decide), HSS.out, wx, (show (Lit.int .i64 0).wf = true from by decide)⟩ h2
              rw [WE.out]
              exact qq
            have FLA : ∀ W : World, (Instr.field 123 (.agg #[.int .i64 (a1 : Int), .int .i64 (a2 : Int), .bool a3, .bool a4]) 0).run Try.prog W = .ok (.int .i64 (a1 : Int)) W := fun W => by kernel_rfl
            clear WE WN fa wx hx0 HIN HRI
            generalize xs.length = xn at *
            go_upto_region 11 with (go_at_call 78; refine (LA.out _).mono ?_; rintro e w' ⟨rfl, rfl⟩)
            have PB := hid (heap_alloc_new wr (.cells #[.int .i64 ri, .int .i64 rj, .slice la xn lc] 77))
            have BRW := BA (.cells #[.int .i64 ri, .int .i64 rj, .slice la xn lc] 77)
            have TW := hid (TR.out.later (below_box wr (.cells #[.int .i64 ri, .int .i64 rj, .slice la xn lc] 77)))
            clear LA y0 y1 y2
            generalize wr.alloc (.cells #[.int .i64 ri, .int .i64 rj, .slice la xn lc] 77) = W at *
            generalize wr.heap.size = pb at *
            have p0 : W.cell? ⟨pb, 0, none⟩ = some (.int .i64 ri) := Lib.cell_of_heap PB.out 0
            obtain ⟨k0, _, _, k5⟩ := BOX.out W BRW.out
            have BRN : ∀ n, Hid (Below w0.heap.size w0 (W.drewN n)) := fun n => ⟨BRW.out.os, BRW.out.tape, BRW.out.output, BRW.out.size, BRW.out.block⟩
            have lA := fun n => LKA.out (W.drewN n) (BRN n).out
            refine wp_region_last 92 16 _ Try.mixedOrders rfl rfl rfl rfl (by kernel_rfl) (by kernel_rfl) (by kernel_rfl) ?_
            simp only [tailMove]
            repeat (go_big_quiet_step (fail))
            refine wpQuiet_nil ?_
            intro w' hw'
            obtain ⟨nq2, rfl⟩ := hw'
            go_simp
            refine (TLk.out (W.drewN nq2) (TW.out.later ⟨rfl, rfl, rfl, Nat.le_refl _, fun _ _ => rfl⟩) (BRN nq2).out).mono ?_
            rintro e w5 ⟨rfl, t5, b5⟩
            have T5 := hid t5
            have B5 := hid b5
            clear t5 b5
            go_wp2_with fail
            go_roundg (R.length - (q + 1))
            case measure => omega
            case rel => exact ⟨q + 1, by omega, by omega, by go_num, B5.out, T5.out⟩
        · have hqe : q = R.length := by omega
          have hq1i : ¬ (q : Int) < R.length := by omega
          have TS3 : Hid (TeE B lb mb hb (2 * K.ts.length + 2 * R.length) (rw1 K.f s K.ts RX 0) wr) := by
            have e : rw1 K.f s K.ts RX 0 = wr1 K.f s K.ts RX q := by rw [hqe, HLEN.out]; rfl
            rw [e]
            obtain ⟨rv', c', n', q1, q2⟩ := TR.out
            exact ⟨rv', c', n', q1.relax (by omega), q2⟩
          have BS3 := hid BR.out
          obtain ⟨_, k1, _, _⟩ := BOX.out wr BR.out
          clear TR BR hqe
          go_wp2_with fail
          clear k1
          go_loopg [13, 14, 15, 16, 99] R.length (fun gg _ _ _ _ i wr => ∃ q : Nat, q ≤ R.length ∧ R.length - q ≤ gg ∧ i = .int .i64 q ∧ Aside (Below w0.heap.size w0 wr) ∧ Aside (TeE B lb mb hb (2 * K.ts.length + 2 * R.length + 2 * q) (rw1 K.f s K.ts RX q) wr))
          case atStart => exact ⟨0, Nat.zero_le _, by omega, rfl, BS3.out, TS3.out⟩
          case round =>
            obtain ⟨q, hq, hgq, rfl, BR, TR⟩ := hrel
            by_cases hq1 : q < R.length
            · have hq1i : (q : Int) < R.length := by omega
              have hqx : q < RX.length := by rw [← HLEN.out]; exact hq1
              obtain ⟨g, la, lc, rfl, y0, y1, y2, hin⟩ := RC.out wr BR.out q hq1
              have WN := hid (rw1_next K.f s K.ts RX q hqx)
              have hrt := HRT.out (RX.getD q default) (by simp [List.getD, List.getElem?_eq_getElem hqx])
              generalize RX.getD q default = r at *
              obtain ⟨ri, rj, xs⟩ := r
              simp only at y0 y1 y2 hin hrt
              have HIN := hid hin
              have HRI := hid hrt
              clear hin hrt
              have BA : ∀ o, Hid (Below w0.heap.size w0 (wr.alloc o)) := fun o => BR.out.trans ((below_box wr o).mono BR.out.size)
              by_cases hxl : xs.length < K.ts.length
              · have hxli : (xs.length : Int) < K.ts.length := by omega
                obtain ⟨V, hV⟩ : ∃ V, (if xs.length = 0 then (0 : Int) else xs.getD (xs.length - 1) default) = V := ⟨_, rfl⟩
                obtain ⟨Z, hZ⟩ : ∃ Z, decide (xs.length = 0) = Z := ⟨_, rfl⟩
                have LA : Hid (∀ o, Calls Try.prog 78 #[.slice la xs.length lc] (wr.alloc o) fun e w' => e = .returned (.tuple #[.int .i64 V, .bool (!Z)]) ∧ wr.alloc o = w') := fun o => by
                  by_cases hx0 : xs.length = 0
                  · rw [← hV, ← hZ, if_pos hx0, decide_eq_true hx0, hx0]
                    exact last_0 _ _ _
                  · rw [← hV, ← hZ, if_neg hx0, decide_eq_false hx0]
                    exact last_is _ xs _ (HIN.out.below (BA o).out) (by omega)
                have wv : (Lit.int .i64 V).wf = true := by
                  rw [← hV]
                  by_cases hx0 : xs.length = 0
                  · rw [if_pos hx0]
                    decide
                  · rw [if_neg hx0]
                    exact HRI.out.2.1 _ (by simp [List.getD, List.getElem?_eq_getElem (show xs.length - 1 < xs.length by omega)])
                have WE : Hid (rw1 K.f s K.ts RX (q + 1) = stepW (rw1 K.f s K.ts RX q) ((ri : Int), (srcT K.f (K.ts.getD xs.length default) : Int), 4, s, V, K.ts.getD xs.length default, Z)) := by
                  show _ = _
                  rw [WN.out, ← hV, ← hZ]
                  simp only [rwE]
                  rw [if_pos hxl]
                  rfl
                have wx := HTW.out xs.length hxl
                have fa := HFB.out (K.ts.getD xs.length default)
                have LKA : Hid (∀ W, Below w0.heap.size w0 W → (Instr.lookup 78 (.map (some sb)) (.int .i64 (K.ts.getD xs.length default)) false).run Try.prog W = .ok (srcV ((K.f (K.ts.getD xs.length default)).getD noSrc)) W) := fun W hb => LOOK.out W hb _ wx
                have TCX : Hid (∀ W, Below w0.heap.size w0 W → ∃ tb to, ta = some ⟨tb, to, none⟩ ∧ W.cell? ⟨tb, to + xs.length, none⟩ = some (.int .i64 (K.ts.getD xs.length default))) := fun W hb => TC.out W hb xs.length hxl
                unfold srcT at WE
                generalize K.ts.getD xs.length default = XA at *
                generalize (K.f XA).getD noSrc = ya at *
                obtain ⟨a1, a2, a3, a4⟩ := ya
                simp only [srcV] at LKA WE fa
                have TLk : Hid (∀ W, TeE B lb mb hb (2 * K.ts.length + 2 * R.length + 2 * q) (rw1 K.f s K.ts RX q) W → Below w0.heap.size w0 W → Calls Try.prog 46 #[.agg #[.int .i64 (ri : Int), .int .i64 (a1 : Int), .int .i64 4, .string s, .int .i64 V, .int .i64 XA, .bool Z, .bool false], .pointer (some ⟨mb, 0, none⟩), .pointer (some ⟨lb, 0, none⟩)] W fun e w' => e = .returned (.tuple #[]) ∧ TeE B lb mb hb (2 * K.ts.length + 2 * R.length + 2 * (q + 1)) (rw1 K.f s K.ts RX (q + 1)) w' ∧ Below w0.heap.size w0 w') := fun W h1 h2 => by
                  have qq := TL.out (2 * K.ts.length + 2 * R.length + 2 * q) _ W ((ri : Int), (a1 : Int), 4, s, V, XA, Z) h1 (by omega) ⟨wf_nat _ HRI.out.1, wf_nat _ fa, (show (Lit.int .i64 4).wf = true from by decide), HSS.out, wv, wx⟩ h2
                  rw [WE.out]
                  exact qq
                have FLA : ∀ W : World, (Instr.field 123 (.agg #[.int .i64 (a1 : Int), .int .i64 (a2 : Int), .bool a3, .bool a4]) 0).run Try.prog W = .ok (.int .i64 (a1 : Int)) W := fun W => by kernel_rfl
                clear WE WN fa wx wv hV hZ HIN HRI
                generalize xs.length = xn at *
                obtain ⟨tb, to, hta, _⟩ := TCX.out wr BR.out
                subst hta
                have tcx : ∀ o, (wr.alloc o).cell? ⟨tb, to + xn, none⟩ = some (.int .i64 XA) := fun o => by
                  obtain ⟨tb', to', e, hh⟩ := TCX.out (wr.alloc o) (BA o).out
                  cases e
                  exact hh
                go_upto_region 19 with (go_at_call 78; refine (LA.out _).mono ?_; rintro e w' ⟨rfl, rfl⟩)
                have PB := hid (heap_alloc_new wr (.cells #[.int .i64 ri, .int .i64 rj, .slice la xn lc] 77))
                have BRW := BA (.cells #[.int .i64 ri, .int .i64 rj, .slice la xn lc] 77)
                have TW := hid (TR.out.later (below_box wr (.cells #[.int .i64 ri, .int .i64 rj, .slice la xn lc] 77)))
                clear LA y0 y1 y2 tcx
                generalize wr.alloc (.cells #[.int .i64 ri, .int .i64 rj, .slice la xn lc] 77) = W at *
                generalize wr.heap.size = pb at *
                have p0 : W.cell? ⟨pb, 0, none⟩ = some (.int .i64 ri) := Lib.cell_of_heap PB.out 0
                obtain ⟨k0, _, _, k5⟩ := BOX.out W BRW.out
                have BRN : ∀ n, Hid (Below w0.heap.size w0 (W.drewN n)) := fun n => ⟨BRW.out.os, BRW.out.tape, BRW.out.output, BRW.out.size, BRW.out.block⟩
                have lA := fun n => LKA.out (W.drewN n) (BRN n).out
                refine wp_region_last 140 19 _ Try.mixedOrders rfl rfl rfl rfl (by kernel_rfl) (by kernel_rfl) (by kernel_rfl) ?_
                simp only [tailMove]
                repeat (go_big_quiet_step (fail))
                refine wpQuiet_nil ?_
                intro w' hw'
                obtain ⟨nq2, rfl⟩ := hw'
                go_simp
                refine (TLk.out (W.drewN nq2) (TW.out.later ⟨rfl, rfl, rfl, Nat.le_refl _, fun _ _ => rfl⟩) (BRN nq2).out).mono ?_
                rintro e w5 ⟨rfl, t5, b5⟩
                have T5 := hid t5
                have B5 := hid b5
                clear t5 b5
                go_wp2_with fail
                go_roundg (R.length - (q + 1))
                case measure => omega
                case rel => exact ⟨q + 1, by omega, by omega, by go_num, B5.out, T5.out⟩
              · have hxli : ¬ (xs.length : Int) < K.ts.length := by omega
                have WE : Hid (rw1 K.f s K.ts RX (q + 1) = rw1 K.f s K.ts RX q) := by show _ = _; rw [WN.out]; simp [rwE, hxl]
                clear WN HIN HRI
                go_wp2_with fail
                go_roundg (R.length - (q + 1))
                case measure => omega
                case rel =>
                  refine ⟨q + 1, by omega, by omega, by go_num, (BA _).out, (show Aside _ from ?_)⟩
                  rw [WE.out]
                  obtain ⟨rv', c', n', q1, q2⟩ := TR.out.later (below_box wr _)
                  exact ⟨rv', c', n', q1.relax (by omega), q2⟩
            · have hqe : q = R.length := by omega
              have hq1i : ¬ (q : Int) < R.length := by omega
              have TF : Hid (TeE B lb mb hb 800000 (onceW (depsL K.f s K.ts RX)) wr) := by
                rw [OD.out, ← HLEN.out]
                rw [hqe] at TR
                obtain ⟨rv', c', n', q1, q2⟩ := TR.out
                exact ⟨rv', c', n', q1.relax (by omega), q2⟩
              clear hqe
              go_wp2_with fail
              go_end0
              exact ⟨rfl, TF.out, BR.out⟩
end Go.Proofs.Ytnfbcmnlloipiaa
namespace Go.Proofs.Ytnfbcmnlloipiaa
set_option linter.unusedVariables false
set_option linter.unusedSimpArgs false
open Go.RowKit Go.Lib Go.Maps
open Tx (MTxn)

/-- The dependencies that the list s forces. -/
def edgN (l : List MTxn) (s : ByteArray) : List MWy := onceW (depsL (srcN l s (notes l l.length)) s (knwN l s (notes l l.length)).ts (rdsN l s (notes l l.length)))
/-- A look, and what Edges lays beside it. -/
def edgW (w1 : World) (s : ByteArray) (rv : Value) (ti t2 : Nat) (ta : Option Addr) (tn tc sb : Nat) : World := (((w1.alloc (.cells #[.string s, rv, .int .i64 ti, .int .i64 t2, .slice ta tn tc, .map (some sb)] 80)).alloc (.cells #[.slice none 0 0] 38)).alloc (.map #[] 0)).alloc (.cells #[.map (some (w1.heap.size + 1 + 1))] 97)
theorem edg_start (w1 : World) (s : ByteArray) (rv : Value) (ti t2 : Nat) (ta : Option Addr) (tn tc sb : Nat) : TeE (w1.heap.size + 4) (w1.heap.size + 1) (w1.heap.size + 1 + 1 + 1) (w1.heap.size + 1 + 1) 0 [] (edgW w1 s rv ti t2 ta tn tc sb) ∧ Below (w1.heap.size + 1) (w1.alloc (.cells #[.string s, rv, .int .i64 ti, .int .i64 t2, .slice ta tn tc, .map (some sb)] 80)) (edgW w1 s rv ti t2 ta tn tc sb) := by
  unfold edgW
  have s1 : (w1.alloc (.cells #[.string s, rv, .int .i64 ti, .int .i64 t2, .slice ta tn tc, .map (some sb)] 80)).heap.size = w1.heap.size + 1 := alloc_size _ _
  generalize w1.alloc (.cells #[.string s, rv, .int .i64 ti, .int .i64 t2, .slice ta tn tc, .map (some sb)] 80) = W0 at *
  have s2 : (W0.alloc (.cells #[.slice none 0 0] 38)).heap.size = w1.heap.size + 1 + 1 := by rw [alloc_size, s1]
  have s3 : ((W0.alloc (.cells #[.slice none 0 0] 38)).alloc (.map #[] 0)).heap.size = w1.heap.size + 1 + 1 + 1 := by rw [alloc_size, s2]
  have mk := MapV.made (W0.alloc (.cells #[.slice none 0 0] 38)) Try.prog 40
  rw [s2] at mk
  refine ⟨⟨.slice none 0 0, fun _ => 0, 0, ⟨?_, World.ownsRow_nil _ _ _ _, ?_, ⟨_, mk.same ?_, fun y => rfl⟩, Nat.le_refl _, fun _ => Nat.le_refl _, Nat.le_refl _, by omega, by omega, by omega, by rw [alloc_size, s3]; omega, by omega, by omega, by omega⟩, fun x => by simp⟩, ?_⟩
  · rw [alloc_at, if_neg (by rw [s3]; omega), alloc_at, if_neg (by rw [s2]; omega), alloc_at, if_pos s1.symm]
  · rw [alloc_at, if_pos s3.symm]
  · rw [alloc_at, if_neg (by rw [s3]; omega)]
  · rw [← s1]
    exact ((below_box W0 _).alloc (by rw [s2]; omega) _).alloc (by rw [s3]; omega) _
set_option maxHeartbeats 4000000 in
set_option maxRecDepth 100000 in
theorem edges_yes (B tb : Nat) (l : List MTxn) (s : ByteArray) (w : World) (h : Made B w tb l) (hs : s.size ≤ maxLen) (hG : Good l) (ho : okN l s) : Calls Try.prog 19 #[.pointer (some ⟨tb, 0, none⟩), .string s] w fun e w' => ∃ v, e = .returned v ∧ w'.ownsRow w.heap.size 40 8 v (edgN l s).length (whysC (edgN l s)) ∧ Below w.heap.size w w' := by
  have TR := hid (trusted_yes B tb l s w h hs hG ho.1 ho.2)
  have hmm := @run_makeMap Try.prog
  have HG := hid hG
  have HS := hid hs
  clear h ho hG hs
  go_enter Try.func19, Try.ntmps19
  go_wp2_with (go_at_call 34; refine TR.out.mono ?_; rintro e w1 ⟨R, t2, ta, tc, n, rv, sb, rfl, ho, hr, hi, hsc, hsb, b1⟩; obtain ⟨ra, rc, hrv⟩ := own_slice ho; subst hrv; have B1 := hid b1; have HO := hid ho; have HR := hid hr; have HI := hid hi; have HSC := hid hsc; clear b1 TR ho hr hi hsc hsb)
  obtain ⟨E1, E2⟩ := edg_start w1 s (.slice ra R.length rc) (knwN l s (notes l l.length)).ti t2 ta (knwN l s (notes l l.length)).ts.length tc sb
  have EW : edgW w1 s (.slice ra R.length rc) (knwN l s (notes l l.length)).ti t2 ta (knwN l s (notes l l.length)).ts.length tc sb = (((w1.alloc (.cells #[.string s, .slice ra R.length rc, .int .i64 (knwN l s (notes l l.length)).ti, .int .i64 t2, .slice ta (knwN l s (notes l l.length)).ts.length tc, .map (some sb)] 80)).alloc (.cells #[.slice none 0 0] 38)).alloc (.map #[] 0)).alloc (.cells #[.map (some (w1.heap.size + 1 + 1))] 97) := rfl
  have DP : Hid (Calls Try.prog 45 #[.pointer (some ⟨w1.heap.size, 0, none⟩), .func (.func 46) #[] #[.pointer (some ⟨w1.heap.size + 1 + 1 + 1, 0, none⟩), .pointer (some ⟨w1.heap.size + 1, 0, none⟩)]] (edgW w1 s (.slice ra R.length rc) (knwN l s (notes l l.length)).ti t2 ta (knwN l s (notes l l.length)).ts.length tc sb) fun e w' => e = .returned (.tuple #[]) ∧ TeE (w1.heap.size + 4) (w1.heap.size + 1) (w1.heap.size + 1 + 1 + 1) (w1.heap.size + 1 + 1) 800000 (edgN l s) w' ∧ Below (w1.heap.size + 1) (w1.alloc (.cells #[.string s, .slice ra R.length rc, .int .i64 (knwN l s (notes l l.length)).ti, .int .i64 t2, .slice ta (knwN l s (notes l l.length)).ts.length tc, .map (some sb)] 80)) w') := by
    have s1 : (w1.alloc (.cells #[.string s, .slice ra R.length rc, .int .i64 (knwN l s (notes l l.length)).ti, .int .i64 t2, .slice ta (knwN l s (notes l l.length)).ts.length tc, .map (some sb)] 80)).heap.size = w1.heap.size + 1 := alloc_size _ _
    have bb := below_box w1 (.cells #[.string s, .slice ra R.length rc, .int .i64 (knwN l s (notes l l.length)).ti, .int .i64 t2, .slice ta (knwN l s (notes l l.length)).ts.length tc, .map (some sb)] 80)
    obtain ⟨F, hF, _⟩ := id HSC.out
    have q := deps_is (knwN l s (notes l l.length)) w.heap.size w1.heap.size sb n (w1.heap.size + 4) (w1.heap.size + 1) (w1.heap.size + 1 + 1 + 1) (w1.heap.size + 1 + 1) s (.slice ra R.length rc) R (rdsN l s (notes l l.length)) t2 ta tc (w1.alloc (.cells #[.string s, .slice ra R.length rc, .int .i64 (knwN l s (notes l l.length)).ti, .int .i64 t2, .slice ta (knwN l s (notes l l.length)).ts.length tc, .map (some sb)] 80)) _ ⟨heap_alloc_new w1 _, own_same HO.out (fun g hg => bb.block g (own_block HO.out hg).2.1)⟩ (HR.out.rds.later bb) (by have := HG.out.rlen (s := s); omega) ((HI.out.keep (fun _ _ _ => rfl) (fun _ _ _ => trivial)).below bb) HG.out.trace.1 HG.out.trace.2 (fun r hr => ⟨by
      obtain ⟨x, hx, rfl⟩ := rds_mem hr
      have := (notes_at _ hx).1
      have := HG.out.len
      show x.1 < _
      omega, (HG.out.rop hr).1, (HG.out.rop hr).2⟩) (HSC.out.same (bb.block sb hF.lt)) HS.out (fun x => (HG.out.src x).1) E1 (by rw [s1]; exact E2) (by rw [s1]; omega) (by rw [s1]; omega) (by rw [s1]; omega)
    rw [s1] at q
    exact q
  rw [EW] at DP
  clear E1 E2 EW
  refine DP.out.mono ?_
  rintro e w5 ⟨rfl, t5, b5⟩
  obtain ⟨rv5, c5, n5, T5, _⟩ := t5
  have l5 : w5.cell? ⟨w1.heap.size + 1, 0, none⟩ = some rv5 := Lib.cell_of_heap T5.lbx 0
  have HT5 := hid T5.own
  have B5 : Hid (Below w.heap.size w w5) := by
    have bb := below_box w1 (.cells #[.string s, .slice ra R.length rc, .int .i64 (knwN l s (notes l l.length)).ti, .int .i64 t2, .slice ta (knwN l s (notes l l.length)).ts.length tc, .map (some sb)] 80)
    exact B1.out.trans (((bb.trans (b5.mono (by omega)))).mono B1.out.size)
  clear DP T5 b5 hmm
  go_wp2_with fail
  go_ret
  exact ⟨_, rfl, own_base HT5.out (by have := B1.out.size; omega), B5.out⟩
end Go.Proofs.Ytnfbcmnlloipiaa
namespace Go.Proofs.Ytnfbcmnlloipiaa
set_option linter.unusedVariables false
set_option linter.unusedSimpArgs false
open Go.RowKit Go.Lib Go.Maps
open Tx (MTxn)

/-- An append to the list s. -/
def isA (s : ByteArray) (x : MN) : Bool := (x.2.2.kind == 1) && decide (x.2.2.key = s)
/-- The values appended to s, in order. -/
def apV (s : ByteArray) (N : List MN) : List Int := (N.filter (isA s)).map fun x => x.2.2.value
/-- How many appends there are. -/
def apC (N : List MN) : Nat := (N.filter fun x => x.2.2.kind == 1).length
/-- What a store that does one operation after the other tells of x behind P. -/
def okX (P : List MN) (x : MN) : Prop := (x.2.2.kind = 1 ∧ x.2.2.value = (apC P : Int) + 1) ∨ (x.2.2.kind = 2 ∧ x.2.2.has = true ∧ x.2.2.list = apV x.2.2.key P)
def serF (P : List MN) : List MN → Prop
  | [] => True
  | x :: N => okX P x ∧ serF (P ++ [x]) N
theorem serF_snoc : ∀ (P N : List MN) (y : MN), serF P N → okX (P ++ N) y → serF P (N ++ [y])
  | P, [], y, _, h => by
    rw [List.append_nil] at h
    exact ⟨h, trivial⟩
  | P, x :: N, y, h, h2 => ⟨h.1, serF_snoc (P ++ [x]) N y h.2 (by rw [List.append_assoc]; exact h2)⟩
theorem serF_at : ∀ (P N1 : List MN) (x : MN) (N2 : List MN), serF P (N1 ++ x :: N2) → okX (P ++ N1) x
  | P, [], x, N2, h => by rw [List.append_nil]; exact h.1
  | P, a :: N1, x, N2, h => by
    have := serF_at (P ++ [a]) N1 x N2 h.2
    rw [List.append_assoc] at this
    exact this
theorem apC_snoc (P : List MN) (x : MN) : apC (P ++ [x]) = apC P + (if x.2.2.kind = 1 then 1 else 0) := by
  unfold apC
  rw [List.filter_append, List.length_append]
  by_cases h : x.2.2.kind = 1
  · simp [h]
  · simp [h]
theorem apV_snoc (s : ByteArray) (P : List MN) (x : MN) : apV s (P ++ [x]) = apV s P ++ (if isA s x then [x.2.2.value] else []) := by
  unfold apV
  rw [List.filter_append, List.map_append]
  by_cases h : isA s x = true
  · simp [h]
  · simp [h]
theorem serF_kind : ∀ (P N : List MN), serF P N → ∀ x ∈ N, x.2.2.kind = 1 ∨ x.2.2.kind = 2
  | P, [], _, x, hx => by cases hx
  | P, a :: N, h, x, hx => by
    rcases List.mem_cons.1 hx with rfl | hx
    · rcases h.1 with q | q
      · exact .inl q.1
      · exact .inr q.1
    · exact serF_kind _ N h.2 x hx
theorem serF_more : ∀ (P N : List MN), serF P N → ∀ b ∈ N, b.2.2.kind = 1 → (apC P : Int) < b.2.2.value
  | P, [], _, x, hx, _ => by cases hx
  | P, a :: N, h, x, hx, hk => by
    rcases List.mem_cons.1 hx with rfl | hx
    · rcases h.1 with q | q
      · rw [q.2]; omega
      · rw [hk] at q; exact absurd q.1 (by decide)
    · have := serF_more _ N h.2 x hx hk
      rw [apC_snoc] at this
      split at this <;> omega
/-- The values rise. -/
theorem serF_rises : ∀ (P N : List MN), serF P N → N.Pairwise fun a b => a.2.2.kind = 1 → b.2.2.kind = 1 → a.2.2.value < b.2.2.value
  | P, [], _ => List.Pairwise.nil
  | P, a :: N, h => by
    refine List.Pairwise.cons (fun b hb ha hbk => ?_) (serF_rises _ N h.2)
    have := serF_more _ N h.2 b hb hbk
    rw [apC_snoc, if_pos ha] at this
    rcases h.1 with q | q
    · rw [q.2]; omega
    · rw [ha] at q; exact absurd q.1 (by decide)
theorem pw_mem {α : Type} {R : α → α → Prop} : ∀ {N : List α}, N.Pairwise R → ∀ {x y}, x ∈ N → y ∈ N → x = y ∨ R x y ∨ R y x
  | [], _, x, y, hx, _ => by cases hx
  | a :: N, h, x, y, hx, hy => by
    cases h with
    | cons h1 h2 =>
      rcases List.mem_cons.1 hx with ex | hx <;> rcases List.mem_cons.1 hy with ey | hy
      · exact .inl (ex.trans ey.symm)
      · rw [ex]; exact .inr (.inl (h1 y hy))
      · rw [ey]; exact .inr (.inr (h1 x hx))
      · exact pw_mem h2 hx hy
theorem filter_none {α : Type} {p : α → Bool} {N : List α} (h : ∀ y ∈ N, p y = false) : N.filter p = [] := by
  rw [List.filter_eq_nil_iff]
  intro y hy c
  rw [h y hy] at c
  cases c
theorem filter_one {α : Type} {R : α → α → Prop} {p : α → Bool} : ∀ {N : List α}, N.Pairwise R → ∀ {x}, x ∈ N → p x = true → (∀ y ∈ N, p y = true → ¬ R x y ∧ ¬ R y x) → N.filter p = [x]
  | [], _, x, hx, _, _ => by cases hx
  | a :: N, h, x, hx, hp, hn => by
    cases h with
    | cons h1 h2 =>
      rcases List.mem_cons.1 hx with rfl | hx
      · rw [List.filter_cons, if_pos hp, filter_none fun y hy => ?_]
        cases hc : p y with
        | false => rfl
        | true => exact absurd (h1 y hy) (hn y (List.mem_cons_of_mem _ hy) hc).1
      · have hpa : p a = false := by
          cases hc : p a with
          | false => rfl
          | true => exact absurd (h1 x hx) (hn a (by simp) hc).2
        rw [List.filter_cons, if_neg (by rw [hpa]; exact Bool.false_ne_true)]
        exact filter_one h2 hx hp (fun y hy => hn y (List.mem_cons_of_mem _ hy))
/-- Notes stand in the order of transactions and operations. -/
def lx (a b : MN) : Prop := a.1 < b.1 ∨ (a.1 = b.1 ∧ a.2.1 < b.2.1)
theorem notesT_lx (k : Nat) (ops : List MOp) : (notesT k ops).Pairwise lx := by
  unfold notesT
  rw [List.pairwise_map]
  exact List.pairwise_lt_range.imp fun h => .inr ⟨rfl, h⟩
theorem notes_lx (l : List MTxn) : ∀ n, (notes l n).Pairwise lx
  | 0 => List.Pairwise.nil
  | n + 1 => by
    show (notes l n ++ notesT n (l.getD n default).ops).Pairwise lx
    rw [List.pairwise_append]
    refine ⟨notes_lx l n, notesT_lx _ _, fun a ha b hb => ?_⟩
    have := (notes_at n ha).1
    unfold notesT at hb
    obtain ⟨i, _, rfl⟩ := List.mem_map.1 hb
    exact .inl this
theorem notes_has (l : List MTxn) : ∀ n k j, k < n → j < (l.getD k default).ops.length → (k, j, (l.getD k default).ops.getD j default) ∈ notes l n
  | 0, k, j, h, _ => by omega
  | n + 1, k, j, h, hj => by
    show _ ∈ notes l n ++ notesT n (l.getD n default).ops
    rw [List.mem_append]
    by_cases e : k = n
    · subst e
      exact .inr (List.mem_map.2 ⟨j, List.mem_range.2 hj, rfl⟩)
    · exact .inl (notes_has l n k j (by omega) hj)
theorem hit_isA {s : ByteArray} {v : Int} {x : MN} (hk : x.2.2.kind = 1 ∨ x.2.2.kind = 2) : hitW s v x = true ↔ isA s x = true ∧ x.2.2.value = v := by
  unfold hitW isA isW
  rcases hk with h | h <;> simp [h]
theorem isA_kind {s : ByteArray} {x : MN} (h : isA s x = true) : x.2.2.kind = 1 ∧ x.2.2.key = s := by
  unfold isA at h
  simpa using h
/-- Transactions of a store that does one at a time. -/
structure Ser (l : List MTxn) : Prop where
  ser : serF [] (notes l l.length)
  st : ∀ t ∈ l, t.state = 1
section
variable {l : List MTxn} {s : ByteArray}
theorem Ser.kind (h : Ser l) {x : MN} (hx : x ∈ notes l l.length) : x.2.2.kind = 1 ∨ x.2.2.kind = 2 := serF_kind _ _ h.ser x hx
theorem Ser.one (h : Ser l) {x : MN} (hx : x ∈ notes l l.length) (ha : isA s x = true) : (notes l l.length).filter (hitW s x.2.2.value) = [x] := by
  refine filter_one (serF_rises _ _ h.ser) hx ((hit_isA (h.kind hx)).2 ⟨ha, rfl⟩) fun y hy hp => ?_
  have q := (hit_isA (h.kind hy)).1 hp
  exact ⟨fun c => by have := c (isA_kind ha).1 (isA_kind q.1).1; omega, fun c => by have := c (isA_kind q.1).1 (isA_kind ha).1; omega⟩
theorem Ser.src (h : Ser l) {x : MN} (hx : x ∈ notes l l.length) (ha : isA s x = true) : srcN l s (notes l l.length) x.2.2.value = some (srcOf l x) := by
  unfold srcN
  rw [h.one hx ha]
  rfl
theorem Ser.writers (h : Ser l) {x : MN} (hx : x ∈ notes l l.length) (ha : isA s x = true) : writersN (notes l l.length) s x.2.2.value = [(x.1, x.2.1)] := by
  unfold writersN
  rw [h.one hx ha]
  rfl
theorem Ser.uniq (h : Ser l) : uniqN (notes l l.length) := fun s v => by
  unfold writersN
  rw [List.length_map]
  cases hc : (notes l l.length).filter (hitW s v) with
  | nil => simp
  | cons x r =>
    have hx : x ∈ (notes l l.length).filter (hitW s v) := by rw [hc]; simp
    rw [List.mem_filter] at hx
    have q := (hit_isA (h.kind hx.1)).1 hx.2
    have := h.one hx.1 q.1
    rw [q.2, hc] at this
    rw [this]
    simp
theorem Ser.kindN (h : Ser l) (hk : kindN (notes l l.length) s ≠ 0) : kindN (notes l l.length) s = 1 := by
  unfold Go.Proofs.Ytnfbcmnlloipiaa.kindN at hk ⊢
  cases hc : (notes l l.length).find? (fun x => decide (x.2.2.key = s ∧ thing x.2.2.kind ≠ 0)) with
  | none => rw [hc] at hk; exact absurd rfl hk
  | some x =>
    rcases h.kind (List.mem_of_find?_eq_some hc) with q | q
    · show thing x.2.2.kind = 1
      rw [q]; rfl
    · show thing x.2.2.kind = 1
      rw [q]; rfl
theorem Ser.tell (h : Ser l) (hk : Go.Proofs.Ytnfbcmnlloipiaa.kindN (notes l l.length) s ≠ 0) : tellN l s := ⟨h.kindN hk, h.uniq⟩
/-- The appends to s, in order. -/
def apN (l : List MTxn) (s : ByteArray) : List MN := (notes l l.length).filter (isA s)
theorem apN_mem {x : MN} (hx : x ∈ apN l s) : x ∈ notes l l.length ∧ isA s x = true := List.mem_filter.1 hx
theorem apN_lx : (apN l s).Pairwise lx := (notes_lx l l.length).filter _
theorem Ser.srcA (h : Ser l) {x : MN} (hx : x ∈ apN l s) : srcN l s (notes l l.length) x.2.2.value = some (srcOf l x) := h.src (apN_mem hx).1 (apN_mem hx).2
/-- A read, and what stands ahead of it. -/
theorem Ser.read (h : Ser l) {r : MRx} (hr : r ∈ rdsN l s (notes l l.length)) : ∃ A1 A2, apN l s = A1 ++ A2 ∧ r.2.2 = A1.map (fun x => x.2.2.value) ∧ (∀ a ∈ A1, a.1 < r.1 ∨ (a.1 = r.1 ∧ a.2.1 < r.2.1)) ∧ (∀ a ∈ A2, r.1 < a.1 ∨ (r.1 = a.1 ∧ r.2.1 < a.2.1)) := by
  unfold rdsN at hr
  obtain ⟨x, hx, rfl⟩ := List.mem_map.1 hr
  rw [List.mem_filter] at hx
  obtain ⟨hx, hb⟩ := hx
  unfold rdB isRd at hb
  simp only [Bool.and_eq_true, decide_eq_true_eq, beq_iff_eq] at hb
  obtain ⟨N1, N2, hN⟩ := List.append_of_mem hx
  have hs := h.ser
  rw [hN] at hs
  have ho := serF_at [] N1 x N2 hs
  rw [List.nil_append] at ho
  have hl := notes_lx l l.length
  rw [hN, List.pairwise_append] at hl
  obtain ⟨_, l2, l3⟩ := hl
  cases l2 with
  | cons l2 _ =>
  have hxA : isA s x = false := by unfold isA; rw [hb.1.1.2]; rfl
  refine ⟨N1.filter (isA s), N2.filter (isA s), ?_, ?_, fun a ha => l3 a (List.mem_filter.1 ha).1 x (by simp), fun a ha => l2 a (List.mem_filter.1 ha).1⟩
  · unfold apN
    rw [hN, List.filter_append, List.filter_cons, if_neg (by rw [hxA]; exact Bool.false_ne_true)]
  · rcases ho with q | q
    · rw [hb.1.1.2] at q; exact absurd q.1 (by decide)
    · show x.2.2.list = _
      rw [q.2.2, hb.1.1.1]
      rfl
theorem Ser.starts (h : Ser l) {r : MRx} (hr : r ∈ rdsN l s (notes l l.length)) : r.2.2 <+: (apN l s).map (fun x => x.2.2.value) := by
  obtain ⟨A1, A2, h1, h2, _⟩ := h.read hr
  rw [h1, h2, List.map_append]
  exact List.prefix_append _ _
theorem Ser.trace (h : Ser l) : (knwN l s (notes l l.length)).ts <+: (apN l s).map (fun x => x.2.2.value) := by
  show (longR (rdsN l s (notes l l.length))).2.2 <+: _
  rcases long_in (rdsN l s (notes l l.length)) with q | q
  · rw [q]; exact List.nil_prefix
  · exact h.starts q
theorem getD_is {α : Type} [Inhabited α] {xs : List α} {k : Nat} (hk : k < xs.length) : xs.getD k default = xs[k] := by
  rw [List.getD, List.getElem?_eq_getElem hk]
  rfl
/-- The append at k. -/
def apK (l : List MTxn) (s : ByteArray) (k : Nat) : MN := (apN l s).getD k default
theorem apK_mem {k : Nat} (hk : k < (apN l s).length) : apK l s k ∈ apN l s := by
  unfold apK
  rw [List.getD, List.getElem?_eq_getElem hk]
  exact List.getElem_mem hk
theorem apK_lx {i j : Nat} (hij : i < j) (hj : j < (apN l s).length) : lx (apK l s i) (apK l s j) := by
  have := List.pairwise_iff_getElem.1 (apN_lx (l := l) (s := s)) i j (by omega) hj hij
  unfold apK
  rw [getD_is hj, getD_is (show i < (apN l s).length by omega)]
  exact this
theorem pre_at {xs : List Int} (h : xs <+: (apN l s).map (fun x => x.2.2.value)) {k : Nat} (hk : k < xs.length) : xs.getD k default = (apK l s k).2.2.value ∧ k < (apN l s).length := by
  obtain ⟨t, ht⟩ := h
  have hl : xs.length + t.length = (apN l s).length := by
    have := congrArg List.length ht
    simpa using this
  have hk2 : k < (apN l s).length := by omega
  refine ⟨?_, hk2⟩
  have e : ((apN l s).map (fun x => x.2.2.value))[k]? = xs[k]? := by rw [← ht, List.getElem?_append_left hk]
  rw [List.getElem?_map, List.getElem?_eq_getElem hk2, List.getElem?_eq_getElem hk] at e
  unfold apK
  rw [getD_is hk, getD_is hk2]
  simpa using e.symm
theorem Ser.srcK (h : Ser l) {xs : List Int} (hp : xs <+: (apN l s).map (fun x => x.2.2.value)) {k : Nat} (hk : k < xs.length) : srcN l s (notes l l.length) (xs.getD k default) = some (srcOf l (apK l s k)) := by
  have q := pre_at hp hk
  rw [q.1]
  exact h.srcA (apK_mem q.2)
theorem Ser.srcT (h : Ser l) {xs : List Int} (hp : xs <+: (apN l s).map (fun x => x.2.2.value)) {k : Nat} (hk : k < xs.length) : srcT (srcN l s (notes l l.length)) (xs.getD k default) = (apK l s k).1 := by
  unfold Go.Proofs.Ytnfbcmnlloipiaa.srcT
  rw [h.srcK hp hk]
  rfl
theorem lx_irr {a b : MN} (h : lx a b) (h2 : lx b a) : False := by
  unfold lx at h h2
  omega
theorem Ser.lat (h : Ser l) {xs : List Int} (hp : xs <+: (apN l s).map (fun x => x.2.2.value)) : ∀ k i, k ≤ i → i < xs.length → latK (srcN l s (notes l l.length)) xs k (apK l s i).1 ≤ (apK l s i).2.1
  | 0, i, _, _ => Nat.zero_le _
  | k + 1, i, hk, hi => by
    have ih := h.lat hp k i (by omega) hi
    unfold latK
    have e : ((srcN l s (notes l l.length) (xs.getD k default)).getD noSrc) = srcOf l (apK l s k) := by rw [h.srcK hp (by omega)]; rfl
    rw [e]
    have q := apK_lx (l := l) (s := s) (show k < i by omega) (pre_at hp hi).2
    split
    · rename_i c
      have c1 : (srcOf l (apK l s k)).1 = (apK l s k).1 := rfl
      have c2 : (srcOf l (apK l s k)).2.1 = (apK l s k).2.1 := rfl
      rw [c1] at c
      rw [c2]
      unfold lx at q
      omega
    · exact ih
theorem Ser.dis (h : Ser l) {xs : List Int} (hp : xs <+: (apN l s).map (fun x => x.2.2.value)) : ∀ k, k ≤ xs.length → disK (srcN l s (notes l l.length)) s xs k = []
  | 0, _ => rfl
  | k + 1, hk => by
    have ih := h.dis hp k (by omega)
    unfold disK
    have e : ((srcN l s (notes l l.length) (xs.getD k default)).getD noSrc) = srcOf l (apK l s k) := by rw [h.srcK hp (by omega)]; rfl
    rw [e, if_neg, ih]
    have := h.lat hp k k (Nat.le_refl _) (by omega)
    show ¬ (apK l s k).2.1 < latK _ xs k (apK l s k).1
    omega
theorem mem_getD {xs : List Int} {x : Int} (h : x ∈ xs) : ∃ k, k < xs.length ∧ xs.getD k default = x := by
  obtain ⟨k, hk, e⟩ := List.mem_iff_getElem.1 h
  exact ⟨k, hk, by rw [List.getD, List.getElem?_eq_getElem hk]; exact e⟩
theorem find_none {α : Type} {p : α → Bool} {xs : List α} (h : ∀ x ∈ xs, p x = false) : xs.find? p = none := by
  rw [List.find?_eq_none]
  intro x hx c
  rw [h x hx] at c
  cases c
end
end Go.Proofs.Ytnfbcmnlloipiaa
