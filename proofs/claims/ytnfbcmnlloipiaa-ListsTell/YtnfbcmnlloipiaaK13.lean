/-
  The dependencies of a look.
  Edges, where the trace can be trusted.
  Txn beyond the transactions; the document's Kind.
  All keys, rising: plain.
-/
import Derived.Test.YtnfbcmnlloipiaaK12
import Derived.Test.YtnfbcmnlloipiaaK10
import Derived.Sort.KeysCollected
namespace Go.Proofs.Ytnfbcmnlloipiaa
set_option linter.unusedVariables false
set_option linter.unusedSimpArgs false
open Go.RowKit Go.Lib Go.Maps

abbrev srcT (F : Int → Option MSrc) (x : Int) : Nat := ((F x).getD noSrc).1
def wwE (F : Int → Option MSrc) (s : ByteArray) (ts : List Int) (i : Nat) : MWy := ((srcT F (ts.getD i default) : Int), (srcT F (ts.getD (i + 1) default) : Int), 1, s, ts.getD i default, ts.getD (i + 1) default, false)
def wrE (F : Int → Option MSrc) (s : ByteArray) (r : MRx) : List MWy := if r.2.2.length = 0 then [] else [((srcT F (r.2.2.getD (r.2.2.length - 1) default) : Int), (r.1 : Int), 2, s, r.2.2.getD (r.2.2.length - 1) default, 0, false)]
def rwE (F : Int → Option MSrc) (s : ByteArray) (ts : List Int) (r : MRx) : List MWy := if r.2.2.length < ts.length then [((r.1 : Int), (srcT F (ts.getD r.2.2.length default) : Int), 4, s, (if r.2.2.length = 0 then 0 else r.2.2.getD (r.2.2.length - 1) default), ts.getD r.2.2.length default, decide (r.2.2.length = 0))] else []
/-- All that a trace forces, in the order in which it is told. -/
def depsL (F : Int → Option MSrc) (s : ByteArray) (ts : List Int) (RX : List MRx) : List MWy := (List.range (ts.length - 1)).map (wwE F s ts) ++ (RX.flatMap (wrE F s) ++ RX.flatMap (rwE F s ts))
def ww1 (F : Int → Option MSrc) (s : ByteArray) (ts : List Int) (i : Nat) : List MWy := ((List.range i).map (wwE F s ts)).foldl stepW []
def wr1 (F : Int → Option MSrc) (s : ByteArray) (ts : List Int) (RX : List MRx) (q : Nat) : List MWy := ((RX.take q).flatMap (wrE F s)).foldl stepW (ww1 F s ts (ts.length - 1))
def rw1 (F : Int → Option MSrc) (s : ByteArray) (ts : List Int) (RX : List MRx) (q : Nat) : List MWy := ((RX.take q).flatMap (rwE F s ts)).foldl stepW (wr1 F s ts RX RX.length)
theorem ww1_next (F : Int → Option MSrc) (s : ByteArray) (ts : List Int) (i : Nat) : ww1 F s ts (i + 1) = stepW (ww1 F s ts i) (wwE F s ts i) := by
  unfold ww1
  rw [List.range_succ, List.map_append, List.foldl_append]
  rfl
theorem take_flat {α β : Type} [Inhabited α] (g : α → List β) (RX : List α) (q : Nat) (hq : q < RX.length) : (RX.take (q + 1)).flatMap g = (RX.take q).flatMap g ++ g (RX.getD q default) := by
  rw [List.take_add_one, List.flatMap_append, List.getElem?_eq_getElem hq]
  simp [List.getD, List.getElem?_eq_getElem hq]
theorem wr1_next (F : Int → Option MSrc) (s : ByteArray) (ts : List Int) (RX : List MRx) (q : Nat) (hq : q < RX.length) : wr1 F s ts RX (q + 1) = (wrE F s (RX.getD q default)).foldl stepW (wr1 F s ts RX q) := by
  unfold wr1
  rw [take_flat _ _ _ hq, List.foldl_append]
theorem rw1_next (F : Int → Option MSrc) (s : ByteArray) (ts : List Int) (RX : List MRx) (q : Nat) (hq : q < RX.length) : rw1 F s ts RX (q + 1) = (rwE F s ts (RX.getD q default)).foldl stepW (rw1 F s ts RX q) := by
  unfold rw1
  rw [take_flat _ _ _ hq, List.foldl_append]
theorem once_deps (F : Int → Option MSrc) (s : ByteArray) (ts : List Int) (RX : List MRx) : onceW (depsL F s ts RX) = rw1 F s ts RX RX.length := by
  unfold onceW depsL rw1 wr1 ww1
  rw [List.foldl_append, List.foldl_append, List.take_length]
/-- What Edges holds, whatever it is. -/
def TeE (B lb mb hb N : Nat) (out : List MWy) (w : World) : Prop := ∃ rv c n, Te B lb mb hb N out rv c n w ∧ ∀ x, 0 < c x ↔ x ∈ out
theorem tell_e (B lb mb hb N : Nat) (out : List MWy) (w0 w : World) (h : TeE B lb mb hb N out w) (hN : N ≤ 900000) (y : MWy) (hy : WyOk y) (hw : Below w0.heap.size w0 w) (hl : w0.heap.size ≤ lb) (hh : w0.heap.size ≤ hb) (hB : w0.heap.size ≤ B) : Calls Try.prog 46 #[whyV y, .pointer (some ⟨mb, 0, none⟩), .pointer (some ⟨lb, 0, none⟩)] w fun e w' => e = .returned (.tuple #[]) ∧ TeE B lb mb hb (N + 2) (stepW out y) w' ∧ Below w0.heap.size w0 w' := by
  obtain ⟨rv, c, n, h1, h2⟩ := h
  refine (tell_is B lb mb hb N out rv c n w h1 h2 hN y hy).mono ?_
  rintro e w' ⟨rfl, h3, h4⟩
  exact ⟨rfl, h3, hw.trans (h4.below hw.size (fun i hi c => by rcases c with c | c | c <;> omega))⟩
theorem TeE.later {B lb mb hb N : Nat} {out : List MWy} {w w' : World} (h : TeE B lb mb hb N out w) (hb' : Below w.heap.size w w') : TeE B lb mb hb N out w' := by
  obtain ⟨rv, c, n, h1, h2⟩ := h
  exact ⟨rv, c, n, h1.later hb', h2⟩
theorem wf_nat (n : Nat) (h : n < 1000000) : (Lit.int .i64 (n : Int)).wf = true := by
  have a : IntKind.i64.min = -9223372036854775808 := by decide
  have b : IntKind.i64.max = 9223372036854775807 := by decide
  simp [Lit.wf, a, b]
  omega
set_option maxHeartbeats 16000000 in
set_option maxRecDepth 100000 in
theorem deps_is (K : Knw) (Bk kb sb n B lb mb hb : Nat) (s : ByteArray) (rv : Value) (R : List MRd) (RX : List MRx) (t2 : Nat) (ta : Option Addr) (tc : Nat) (w0 w : World) (h : Lg Bk w0 kb s rv R (K.ti, t2, ta, K.ts.length, tc) sb) (hR : Rds w0 R RX) (hRl : RX.length ≤ 100000) (hts : IntsIn Any w0 (.slice ta K.ts.length tc) K.ts) (htw : ∀ x ∈ K.ts, (Lit.int .i64 x).wf = true) (htl : K.ts.length ≤ 100000) (hrt : ∀ r ∈ RX, r.1 < 1000000 ∧ (∀ x ∈ r.2.2, (Lit.int .i64 x).wf = true) ∧ r.2.2.length ≤ 100000) (hs : Sc w0 sb n K.f) (hss : s.size ≤ maxLen) (hfb : ∀ x, ((K.f x).getD noSrc).1 < 1000000) (hT : TeE B lb mb hb 0 [] w) (hw : Below w0.heap.size w0 w) (hl : w0.heap.size ≤ lb) (hh : w0.heap.size ≤ hb) (hB : w0.heap.size ≤ B) : Calls Try.prog 45 #[.pointer (some ⟨kb, 0, none⟩), .func (.func 46) #[] #[.pointer (some ⟨mb, 0, none⟩), .pointer (some ⟨lb, 0, none⟩)]] w fun e w' => e = .returned (.tuple #[]) ∧ TeE B lb mb hb 800000 (onceW (depsL K.f s K.ts RX)) w' ∧ Below w0.heap.size w0 w' := by
  have TL : Hid (∀ N out W y, TeE B lb mb hb N out W → N ≤ 900000 → WyOk y → Below w0.heap.size w0 W → Calls Try.prog 46 #[whyV y, .pointer (some ⟨mb, 0, none⟩), .pointer (some ⟨lb, 0, none⟩)] W fun e w' => e = .returned (.tuple #[]) ∧ TeE B lb mb hb (N + 2) (stepW out y) w' ∧ Below w0.heap.size w0 w') := fun N out W y h1 h2 h3 h4 => tell_e B lb mb hb N out w0 W h1 h2 y h3 h4 hl hh hB
  have H := hid h
  have HR := hid hR
  have HTS := hid hts
  have HTW : Hid (∀ i, i < K.ts.length → (Lit.int .i64 (K.ts.getD i default)).wf = true) := fun i hi => htw _ (by simp [List.getD, List.getElem?_eq_getElem hi])
  have HRT := hid hrt
  have HS := hid hs
  have HFB := hid hfb
  have HSS := hid hss
  have T0 := hid hT
  have BW := hid hw
  have OD := hid (once_deps K.f s K.ts RX)
  obtain ⟨ra, rc, hrv⟩ := own_slice h.own
  subst hrv
  have hkb : kb < w0.heap.size := blt h.box
  have BOX : Hid (∀ W, Below w0.heap.size w0 W → W.cell? ⟨kb, 0, none⟩ = some (.string s) ∧ W.cell? ⟨kb, 1, none⟩ = some (.slice ra R.length rc) ∧ W.cell? ⟨kb, 4, none⟩ = some (.slice ta K.ts.length tc) ∧ W.cell? ⟨kb, 5, none⟩ = some (.map (some sb))) := fun W hb => by
    have bx := (hb.block kb hkb).trans H.out.box
    exact ⟨Lib.cell_of_heap bx 0, Lib.cell_of_heap bx 1, Lib.cell_of_heap bx 4, Lib.cell_of_heap bx 5⟩
  have LOOK : Hid (∀ W, Below w0.heap.size w0 W → ∀ x, (Lit.int .i64 x).wf = true → (Instr.lookup 78 (.map (some sb)) (.int .i64 x) false).run Try.prog W = .ok (srcV ((K.f x).getD noSrc)) W) := fun W hb x hx => by
    obtain ⟨F, hF, _⟩ := id HS.out
    exact (HS.out.same (hb.block sb hF.lt)).look x hx
  have TC : Hid (∀ W, Below w0.heap.size w0 W → ∀ i, i < K.ts.length → ∃ tb to, ta = some ⟨tb, to, none⟩ ∧ W.cell? ⟨tb, to + i, none⟩ = some (.int .i64 (K.ts.getD i default))) := fun W hb i hi => by
    obtain ⟨ao, c', hv, _, hc⟩ := id HTS.out
    cases hv
    obtain ⟨b, off, e, _, h3⟩ := hc (by omega)
    exact ⟨b, off, e, (hb.cell (p := ⟨b, off + i, none⟩) (World.block_lt_of_cell? _ _ (h3 i hi))).trans (h3 i hi)⟩
  have hlen := hR.len
  have HLEN := hid hlen
  have hti : (K.ts.length : Int) ≤ 100000 := by omega
  clear h hR hts htw hrt hs hfb hss hT hw hl hh hB hlen
  obtain ⟨k0, _, k4, _⟩ := BOX.out w BW.out
  go_enter Try.func45, Try.ntmps45
  go_wp2_with fail
  clear k0 k4
  go_loopg [5, 6, 7] K.ts.length (fun gg i _ _ wr => ∃ k : Nat, k ≤ K.ts.length - 1 ∧ K.ts.length - 1 - k ≤ gg ∧ i = .int .i64 ((k : Int) + 1) ∧ Aside (Below w0.heap.size w0 wr) ∧ Aside (TeE B lb mb hb (2 * k) (ww1 K.f s K.ts k) wr))
  case atStart => exact ⟨0, Nat.zero_le _, by omega, rfl, BW.out, T0.out⟩
  case round =>
    obtain ⟨k, hk, hgk, rfl, BR, TR⟩ := hrel
    by_cases hlt : k + 1 < K.ts.length
    · have hlti : (k : Int) + 1 < K.ts.length := by omega
      obtain ⟨tb, to, rfl, xa⟩ := TC.out wr BR.out k (by omega)
      obtain ⟨tb', to', hta, xb⟩ := TC.out wr BR.out (k + 1) hlt
      cases hta
      obtain ⟨k0, _, k4, k5⟩ := BOX.out wr BR.out
      have la := LOOK.out wr BR.out (K.ts.getD k default) (HTW.out k (by omega))
      have lb' := LOOK.out wr BR.out (K.ts.getD (k + 1) default) (HTW.out (k + 1) hlt)
      have WN := hid (ww1_next K.f s K.ts k)
      have HWE : Hid (wwE K.f s K.ts k = ((srcT K.f (K.ts.getD k default) : Int), (srcT K.f (K.ts.getD (k + 1) default) : Int), 1, s, K.ts.getD k default, K.ts.getD (k + 1) default, false)) := rfl
      have fa := HFB.out (K.ts.getD k default)
      have fb := HFB.out (K.ts.getD (k + 1) default)
      have wa := HTW.out k (by omega)
      have wb := HTW.out (k + 1) hlt
      have LKA : Hid (∀ W, Below w0.heap.size w0 W → (Instr.lookup 78 (.map (some sb)) (.int .i64 (K.ts.getD k default)) false).run Try.prog W = .ok (srcV ((K.f (K.ts.getD k default)).getD noSrc)) W) := fun W hb => LOOK.out W hb _ wa
      have LKB : Hid (∀ W, Below w0.heap.size w0 W → (Instr.lookup 78 (.map (some sb)) (.int .i64 (K.ts.getD (k + 1) default)) false).run Try.prog W = .ok (srcV ((K.f (K.ts.getD (k + 1) default)).getD noSrc)) W) := fun W hb => LOOK.out W hb _ wb
      unfold srcT at HWE
      generalize K.ts.getD k default = XA at *
      generalize K.ts.getD (k + 1) default = XB at *
      generalize (K.f XA).getD noSrc = ya at *
      generalize (K.f XB).getD noSrc = yb at *
      obtain ⟨a1, a2, a3, a4⟩ := ya
      obtain ⟨b1, b2, b3, b4⟩ := yb
      simp only [srcV] at LKA LKB HWE fa fb
      have TLk : Hid (∀ W, TeE B lb mb hb (2 * k) (ww1 K.f s K.ts k) W → Below w0.heap.size w0 W → Calls Try.prog 46 #[.agg #[.int .i64 (a1 : Int), .int .i64 (b1 : Int), .int .i64 1, .string s, .int .i64 XA, .int .i64 XB, .bool false, .bool false], .pointer (some ⟨mb, 0, none⟩), .pointer (some ⟨lb, 0, none⟩)] W fun e w' => e = .returned (.tuple #[]) ∧ TeE B lb mb hb (2 * (k + 1)) (ww1 K.f s K.ts (k + 1)) w' ∧ Below w0.heap.size w0 w') := fun W h1 h2 => by
        have q := TL.out (2 * k) _ W ((a1 : Int), (b1 : Int), 1, s, XA, XB, false) h1 (by omega) ⟨wf_nat _ fa, wf_nat _ fb, (show (Lit.int .i64 1).wf = true from by decide), HSS.out, wa, wb⟩ h2
        rw [WN.out, HWE.out]
        exact q
      have FLA : ∀ W : World, (Instr.field 123 (.agg #[.int .i64 (a1 : Int), .int .i64 (a2 : Int), .bool a3, .bool a4]) 0).run Try.prog W = .ok (.int .i64 (a1 : Int)) W := fun W => by kernel_rfl
      have FLB : ∀ W : World, (Instr.field 123 (.agg #[.int .i64 (b1 : Int), .int .i64 (b2 : Int), .bool b3, .bool b4]) 0).run Try.prog W = .ok (.int .i64 (b1 : Int)) W := fun W => by kernel_rfl
      clear WN HWE fa fb wa wb la lb'
      go_wp2_with fail
      go_quiet (fail)
      obtain ⟨W, hW⟩ : ∃ W, wr.drewN nq = W := ⟨_, rfl⟩
      have BRW : Hid (Below w0.heap.size w0 W) := by rw [← hW]; exact ⟨BR.out.os, BR.out.tape, BR.out.output, BR.out.size, BR.out.block⟩
      have TW : Hid (TeE B lb mb hb (2 * k) (ww1 K.f s K.ts k) W) := by
        rw [← hW]
        exact TR.out.later ⟨rfl, rfl, rfl, Nat.le_refl _, fun _ _ => rfl⟩
      rw [hW]
      clear hW xa xb k0 k4 k5
      obtain ⟨k0, _, _, k5⟩ := BOX.out W BRW.out
      have BRN : ∀ n, Hid (Below w0.heap.size w0 (W.drewN n)) := fun n => ⟨BRW.out.os, BRW.out.tape, BRW.out.output, BRW.out.size, BRW.out.block⟩
      have lA := fun n => LKA.out (W.drewN n) (BRN n).out
      have lB := fun n => LKB.out (W.drewN n) (BRN n).out
      go_wp2_with fail
      refine wp_region_last 59 22 _ Try.mixedOrders rfl rfl rfl rfl (by kernel_rfl) (by kernel_rfl) (by kernel_rfl) ?_
      simp only [tailMove]
      repeat (go_big_quiet_step (fail))
      refine wpQuiet_nil ?_
      intro w' hw'
      obtain ⟨nq2, rfl⟩ := hw'
      go_simp
      refine (TLk.out (W.drewN nq2) (TW.out.later ⟨rfl, rfl, rfl, Nat.le_refl _, fun _ _ => rfl⟩) (BRN nq2).out).mono ?_
      rintro e w5 ⟨rfl, t5, b5⟩
      have T5 := hid t5
      have B5 := hid b5
      clear t5 b5
      go_wp2_with fail
      go_roundg (K.ts.length - 1 - (k + 1))
      case measure => omega
      case rel => exact ⟨k + 1, by omega, by omega, by go_num, B5.out, T5.out⟩
    · have hke : k = K.ts.length - 1 := by omega
      have hlti : ¬ (k : Int) + 1 < K.ts.length := by omega
      have TS : Hid (TeE B lb mb hb (2 * K.ts.length) (wr1 K.f s K.ts RX 0) wr) := by
        obtain ⟨rv', c', n', q1, q2⟩ := TR.out
        rw [hke] at q1 q2
        exact ⟨rv', c', n', q1.relax (by omega), q2⟩
      have BS := hid BR.out
      obtain ⟨_, k1, _, _⟩ := BOX.out wr BR.out
      have hRn : R.length ≤ 100000 := by rw [HLEN.out]; exact hRl
      have hRi : (R.length : Int) ≤ 100000 := by omega
      have RC : Hid (∀ W, Below w0.heap.size w0 W → ∀ q, q < R.length → ∃ g la lc, ra = some ⟨g, 0, none⟩ ∧ W.cell? ⟨g, q * 3, none⟩ = some (.int .i64 (RX.getD q default).1) ∧ W.cell? ⟨g, q * 3 + 1, none⟩ = some (.int .i64 (RX.getD q default).2.1) ∧ W.cell? ⟨g, q * 3 + 2, none⟩ = some (.slice la (RX.getD q default).2.2.length lc) ∧ IntsIn Any w0 (.slice la (RX.getD q default).2.2.length lc) (RX.getD q default).2.2) := fun W hb q hq => by
        obtain ⟨g, c', hv⟩ := own_some H.out.own (by omega)
        cases hv
        have hgl : g < w0.heap.size := (own_block H.out.own rfl).2.1
        obtain ⟨la, lc, hRq, hin, _⟩ := HR.out.at' q hq
        have ce : ∀ i u, i < 3 → (rdVs (R.getD q default))[i]? = some u → W.cell? ⟨g, q * 3 + i, none⟩ = some u := fun i u hi hu => (hb.cell (p := ⟨g, q * 3 + i, none⟩) hgl).trans ((H.out.own.cellAt (q * 3 + i) (by omega)).trans ((rdC_at R q i hq hi).trans hu))
        rw [hRq] at ce
        exact ⟨g, la, lc, rfl, ce 0 _ (by omega) rfl, ce 1 _ (by omega) rfl, ce 2 _ (by omega) rfl, hin⟩
      clear TR BR hke
      go_wp2_with fail
      clear k1
      go_loopg [9, 10, 11, 65] R.length (fun gg _ _ _ i wr => ∃ q : Nat, q ≤ R.length ∧ R.length - q ≤ gg ∧ i = .int .i64 q ∧ Aside (Below w0.heap.size w0 wr) ∧ Aside (TeE B lb mb hb (2 * K.ts.length + 2 * q) (wr1 K.f s K.ts RX q) wr))
      case atStart => exact ⟨0, Nat.zero_le _, by omega, rfl, BS.out, TS.out⟩
      case round =>
        obtain ⟨q, hq, hgq, rfl, BR, TR⟩ := hrel
        by_cases hq1 : q < R.length
        · have hq1i : (q : Int) < R.length := by omega
          have hqx : q < RX.length := by rw [← HLEN.out]; exact hq1
          obtain ⟨g, la, lc, rfl, y0, y1, y2, hin⟩ := RC.out wr BR.out q hq1
          have WN := hid (wr1_next K.f s K.ts RX q hqx)
          have hrt := HRT.out (RX.getD q default) (by simp [List.getD, List.getElem?_eq_getElem hqx])
          generalize RX.getD q default = r at *
          obtain ⟨ri, rj, xs⟩ := r
          simp only at y0 y1 y2 hin hrt
          have HIN := hid hin
          have HRI := hid hrt
          clear hin hrt
          have BA : ∀ o, Hid (Below w0.heap.size w0 (wr.alloc o)) := fun o => BR.out.trans ((below_box wr o).mono BR.out.size)
          by_cases hx0 : xs.length = 0
          · have LA : Hid (∀ o, Calls Try.prog 78 #[.slice la 0 lc] (wr.alloc o) fun e w' => e = .returned (.tuple #[.int .i64 0, .bool false]) ∧ wr.alloc o = w') := fun o => last_0 _ _ _
            have WE : Hid (wr1 K.f s K.ts RX (q + 1) = wr1 K.f s K.ts RX q) := by show _ = _; rw [WN.out]; simp [wrE, hx0]
            rw [hx0] at y2
            clear hx0 HIN HRI WN
            go_wp2_with (go_at_call 78; refine (LA.out _).mono ?_; rintro e w' ⟨rfl, rfl⟩)
            go_roundg (R.length - (q + 1))
            case measure => omega
            case rel =>
              refine ⟨q + 1, by omega, by omega, by go_num, (BA _).out, (show Aside _ from ?_)⟩
              rw [WE.out]
              obtain ⟨rv', c', n', q1, q2⟩ := TR.out.later (below_box wr _)
              exact ⟨rv', c', n', q1.relax (by omega), q2⟩
          · have hx1 : 0 < xs.length := by omega
            have LA : Hid (∀ o, Calls Try.prog 78 #[.slice la xs.length lc] (wr.alloc o) fun e w' => e = .returned (.tuple #[.int .i64 (xs.getD (xs.length - 1) default), .bool true]) ∧ wr.alloc o = w') := fun o => last_is _ xs _ (HIN.out.below (BA o).out) hx1
            have WE : Hid (wr1 K.f s K.ts RX (q + 1) = stepW (wr1 K.f s K.ts RX q) ((srcT K.f (xs.getD (xs.length - 1) default) : Int), (ri : Int), 2, s, xs.getD (xs.length - 1) default, 0, false)) := by show _ = _; rw [WN.out]; simp [wrE, hx0]
            have wx : (Lit.int .i64 (xs.getD (xs.length - 1) default)).wf = true := HRI.out.2.1 _ (by simp [List.getD, List.getElem?_eq_getElem (show xs.length - 1 < xs.length by omega)])
            have fa := HFB.out (xs.getD (xs.length - 1) default)
            have LKA : Hid (∀ W, Below w0.heap.size w0 W → (Instr.lookup 78 (.map (some sb)) (.int .i64 (xs.getD (xs.length - 1) default)) false).run Try.prog W = .ok (srcV ((K.f (xs.getD (xs.length - 1) default)).getD noSrc)) W) := fun W hb => LOOK.out W hb _ wx
            unfold srcT at WE
            generalize xs.getD (xs.length - 1) default = XA at *
            generalize (K.f XA).getD noSrc = ya at *
            obtain ⟨a1, a2, a3, a4⟩ := ya
            simp only [srcV] at LKA WE fa
            have TLk : Hid (∀ W, TeE B lb mb hb (2 * K.ts.length + 2 * q) (wr1 K.f s K.ts RX q) W → Below w0.heap.size w0 W → Calls Try.prog 46 #[.agg #[.int .i64 (a1 : Int), .int .i64 (ri : Int), .int .i64 2, .string s, .int .i64 XA, .int .i64 0, .bool false, .bool false], .pointer (some ⟨mb, 0, none⟩), .pointer (some ⟨lb, 0, none⟩)] W fun e w' => e = .returned (.tuple #[]) ∧ TeE B lb mb hb (2 * K.ts.length + 2 * (q + 1)) (wr1 K.f s K.ts RX (q + 1)) w' ∧ Below w0.heap.size w0 w') := fun W h1 h2 => by
              have qq := TL.out (2 * K.ts.length + 2 * q) _ W ((a1 : Int), (ri : Int), 2, s, XA, 0, false) h1 (by omega) ⟨wf_nat _ fa, wf_nat _ HRI.out.1, (show (Lit.int .i64 2).wf = true from by decide), HSS.out, wx, (show (Lit.int .i64 0).wf = true from by decide)⟩ h2
              rw [WE.out]
              exact qq
            have FLA : ∀ W : World, (Instr.field 123 (.agg #[.int .i64 (a1 : Int), .int .i64 (a2 : Int), .bool a3, .bool a4]) 0).run Try.prog W = .ok (.int .i64 (a1 : Int)) W := fun W => by kernel_rfl
            clear WE WN fa wx hx0 HIN HRI
            generalize xs.length = xn at *
            go_upto_region 11 with (go_at_call 78; refine (LA.out _).mono ?_; rintro e w' ⟨rfl, rfl⟩)
            have PB := hid (heap_alloc_new wr (.cells #[.int .i64 ri, .int .i64 rj, .slice la xn lc] 77))
            have BRW := BA (.cells #[.int .i64 ri, .int .i64 rj, .slice la xn lc] 77)
            have TW := hid (TR.out.later (below_box wr (.cells #[.int .i64 ri, .int .i64 rj, .slice la xn lc] 77)))
            clear LA y0 y1 y2
            generalize wr.alloc (.cells #[.int .i64 ri, .int .i64 rj, .slice la xn lc] 77) = W at *
            generalize wr.heap.size = pb at *
            have p0 : W.cell? ⟨pb, 0, none⟩ = some (.int .i64 ri) := Lib.cell_of_heap PB.out 0
            obtain ⟨k0, _, _, k5⟩ := BOX.out W BRW.out
            have BRN : ∀ n, Hid (Below w0.heap.size w0 (W.drewN n)) := fun n => ⟨BRW.out.os, BRW.out.tape, BRW.out.output, BRW.out.size, BRW.out.block⟩
            have lA := fun n => LKA.out (W.drewN n) (BRN n).out
            refine wp_region_last 92 16 _ Try.mixedOrders rfl rfl rfl rfl (by kernel_rfl) (by kernel_rfl) (by kernel_rfl) ?_
            simp only [tailMove]
            repeat (go_big_quiet_step (fail))
            refine wpQuiet_nil ?_
            intro w' hw'
            obtain ⟨nq2, rfl⟩ := hw'
            go_simp
            refine (TLk.out (W.drewN nq2) (TW.out.later ⟨rfl, rfl, rfl, Nat.le_refl _, fun _ _ => rfl⟩) (BRN nq2).out).mono ?_
            rintro e w5 ⟨rfl, t5, b5⟩
            have T5 := hid t5
            have B5 := hid b5
            clear t5 b5
            go_wp2_with fail
            go_roundg (R.length - (q + 1))
            case measure => omega
            case rel => exact ⟨q + 1, by omega, by omega, by go_num, B5.out, T5.out⟩
        · have hqe : q = R.length := by omega
          have hq1i : ¬ (q : Int) < R.length := by omega
          have TS3 : Hid (TeE B lb mb hb (2 * K.ts.length + 2 * R.length) (rw1 K.f s K.ts RX 0) wr) := by
            have e : rw1 K.f s K.ts RX 0 = wr1 K.f s K.ts RX q := by rw [hqe, HLEN.out]; rfl
            rw [e]
            obtain ⟨rv', c', n', q1, q2⟩ := TR.out
            exact ⟨rv', c', n', q1.relax (by omega), q2⟩
          have BS3 := hid BR.out
          obtain ⟨_, k1, _, _⟩ := BOX.out wr BR.out
          clear TR BR hqe
          go_wp2_with fail
          clear k1
          go_loopg [13, 14, 15, 16, 99] R.length (fun gg _ _ _ _ i wr => ∃ q : Nat, q ≤ R.length ∧ R.length - q ≤ gg ∧ i = .int .i64 q ∧ Aside (Below w0.heap.size w0 wr) ∧ Aside (TeE B lb mb hb (2 * K.ts.length + 2 * R.length + 2 * q) (rw1 K.f s K.ts RX q) wr))
          case atStart => exact ⟨0, Nat.zero_le _, by omega, rfl, BS3.out, TS3.out⟩
          case round =>
            obtain ⟨q, hq, hgq, rfl, BR, TR⟩ := hrel
            by_cases hq1 : q < R.length
            · have hq1i : (q : Int) < R.length := by omega
              have hqx : q < RX.length := by rw [← HLEN.out]; exact hq1
              obtain ⟨g, la, lc, rfl, y0, y1, y2, hin⟩ := RC.out wr BR.out q hq1
              have WN := hid (rw1_next K.f s K.ts RX q hqx)
              have hrt := HRT.out (RX.getD q default) (by simp [List.getD, List.getElem?_eq_getElem hqx])
              generalize RX.getD q default = r at *
              obtain ⟨ri, rj, xs⟩ := r
              simp only at y0 y1 y2 hin hrt
              have HIN := hid hin
              have HRI := hid hrt
              clear hin hrt
              have BA : ∀ o, Hid (Below w0.heap.size w0 (wr.alloc o)) := fun o => BR.out.trans ((below_box wr o).mono BR.out.size)
              by_cases hxl : xs.length < K.ts.length
              · have hxli : (xs.length : Int) < K.ts.length := by omega
                obtain ⟨V, hV⟩ : ∃ V, (if xs.length = 0 then (0 : Int) else xs.getD (xs.length - 1) default) = V := ⟨_, rfl⟩
                obtain ⟨Z, hZ⟩ : ∃ Z, decide (xs.length = 0) = Z := ⟨_, rfl⟩
                have LA : Hid (∀ o, Calls Try.prog 78 #[.slice la xs.length lc] (wr.alloc o) fun e w' => e = .returned (.tuple #[.int .i64 V, .bool (!Z)]) ∧ wr.alloc o = w') := fun o => by
                  by_cases hx0 : xs.length = 0
                  · rw [← hV, ← hZ, if_pos hx0, decide_eq_true hx0, hx0]
                    exact last_0 _ _ _
                  · rw [← hV, ← hZ, if_neg hx0, decide_eq_false hx0]
                    exact last_is _ xs _ (HIN.out.below (BA o).out) (by omega)
                have wv : (Lit.int .i64 V).wf = true := by
                  rw [← hV]
                  by_cases hx0 : xs.length = 0
                  · rw [if_pos hx0]
                    decide
                  · rw [if_neg hx0]
                    exact HRI.out.2.1 _ (by simp [List.getD, List.getElem?_eq_getElem (show xs.length - 1 < xs.length by omega)])
                have WE : Hid (rw1 K.f s K.ts RX (q + 1) = stepW (rw1 K.f s K.ts RX q) ((ri : Int), (srcT K.f (K.ts.getD xs.length default) : Int), 4, s, V, K.ts.getD xs.length default, Z)) := by
                  show _ = _
                  rw [WN.out, ← hV, ← hZ]
                  simp only [rwE]
                  rw [if_pos hxl]
                  rfl
                have wx := HTW.out xs.length hxl
                have fa := HFB.out (K.ts.getD xs.length default)
                have LKA : Hid (∀ W, Below w0.heap.size w0 W → (Instr.lookup 78 (.map (some sb)) (.int .i64 (K.ts.getD xs.length default)) false).run Try.prog W = .ok (srcV ((K.f (K.ts.getD xs.length default)).getD noSrc)) W) := fun W hb => LOOK.out W hb _ wx
                have TCX : Hid (∀ W, Below w0.heap.size w0 W → ∃ tb to, ta = some ⟨tb, to, none⟩ ∧ W.cell? ⟨tb, to + xs.length, none⟩ = some (.int .i64 (K.ts.getD xs.length default))) := fun W hb => TC.out W hb xs.length hxl
                unfold srcT at WE
                generalize K.ts.getD xs.length default = XA at *
                generalize (K.f XA).getD noSrc = ya at *
                obtain ⟨a1, a2, a3, a4⟩ := ya
                simp only [srcV] at LKA WE fa
                have TLk : Hid (∀ W, TeE B lb mb hb (2 * K.ts.length + 2 * R.length + 2 * q) (rw1 K.f s K.ts RX q) W → Below w0.heap.size w0 W → Calls Try.prog 46 #[.agg #[.int .i64 (ri : Int), .int .i64 (a1 : Int), .int .i64 4, .string s, .int .i64 V, .int .i64 XA, .bool Z, .bool false], .pointer (some ⟨mb, 0, none⟩), .pointer (some ⟨lb, 0, none⟩)] W fun e w' => e = .returned (.tuple #[]) ∧ TeE B lb mb hb (2 * K.ts.length + 2 * R.length + 2 * (q + 1)) (rw1 K.f s K.ts RX (q + 1)) w' ∧ Below w0.heap.size w0 w') := fun W h1 h2 => by
                  have qq := TL.out (2 * K.ts.length + 2 * R.length + 2 * q) _ W ((ri : Int), (a1 : Int), 4, s, V, XA, Z) h1 (by omega) ⟨wf_nat _ HRI.out.1, wf_nat _ fa, (show (Lit.int .i64 4).wf = true from by decide), HSS.out, wv, wx⟩ h2
                  rw [WE.out]
                  exact qq
                have FLA : ∀ W : World, (Instr.field 123 (.agg #[.int .i64 (a1 : Int), .int .i64 (a2 : Int), .bool a3, .bool a4]) 0).run Try.prog W = .ok (.int .i64 (a1 : Int)) W := fun W => by kernel_rfl
                clear WE WN fa wx wv hV hZ HIN HRI
                generalize xs.length = xn at *
                obtain ⟨tb, to, hta, _⟩ := TCX.out wr BR.out
                subst hta
                have tcx : ∀ o, (wr.alloc o).cell? ⟨tb, to + xn, none⟩ = some (.int .i64 XA) := fun o => by
                  obtain ⟨tb', to', e, hh⟩ := TCX.out (wr.alloc o) (BA o).out
                  cases e
                  exact hh
                go_upto_region 19 with (go_at_call 78; refine (LA.out _).mono ?_; rintro e w' ⟨rfl, rfl⟩)
                have PB := hid (heap_alloc_new wr (.cells #[.int .i64 ri, .int .i64 rj, .slice la xn lc] 77))
                have BRW := BA (.cells #[.int .i64 ri, .int .i64 rj, .slice la xn lc] 77)
                have TW := hid (TR.out.later (below_box wr (.cells #[.int .i64 ri, .int .i64 rj, .slice la xn lc] 77)))
                clear LA y0 y1 y2 tcx
                generalize wr.alloc (.cells #[.int .i64 ri, .int .i64 rj, .slice la xn lc] 77) = W at *
                generalize wr.heap.size = pb at *
                have p0 : W.cell? ⟨pb, 0, none⟩ = some (.int .i64 ri) := Lib.cell_of_heap PB.out 0
                obtain ⟨k0, _, _, k5⟩ := BOX.out W BRW.out
                have BRN : ∀ n, Hid (Below w0.heap.size w0 (W.drewN n)) := fun n => ⟨BRW.out.os, BRW.out.tape, BRW.out.output, BRW.out.size, BRW.out.block⟩
                have lA := fun n => LKA.out (W.drewN n) (BRN n).out
                refine wp_region_last 140 19 _ Try.mixedOrders rfl rfl rfl rfl (by kernel_rfl) (by kernel_rfl) (by kernel_rfl) ?_
                simp only [tailMove]
                repeat (go_big_quiet_step (fail))
                refine wpQuiet_nil ?_
                intro w' hw'
                obtain ⟨nq2, rfl⟩ := hw'
                go_simp
                refine (TLk.out (W.drewN nq2) (TW.out.later ⟨rfl, rfl, rfl, Nat.le_refl _, fun _ _ => rfl⟩) (BRN nq2).out).mono ?_
                rintro e w5 ⟨rfl, t5, b5⟩
                have T5 := hid t5
                have B5 := hid b5
                clear t5 b5
                go_wp2_with fail
                go_roundg (R.length - (q + 1))
                case measure => omega
                case rel => exact ⟨q + 1, by omega, by omega, by go_num, B5.out, T5.out⟩
              · have hxli : ¬ (xs.length : Int) < K.ts.length := by omega
                have WE : Hid (rw1 K.f s K.ts RX (q + 1) = rw1 K.f s K.ts RX q) := by show _ = _; rw [WN.out]; simp [rwE, hxl]
                clear WN HIN HRI
                go_wp2_with fail
                go_roundg (R.length - (q + 1))
                case measure => omega
                case rel =>
                  refine ⟨q + 1, by omega, by omega, by go_num, (BA _).out, (show Aside _ from ?_)⟩
                  rw [WE.out]
                  obtain ⟨rv', c', n', q1, q2⟩ := TR.out.later (below_box wr _)
                  exact ⟨rv', c', n', q1.relax (by omega), q2⟩
            · have hqe : q = R.length := by omega
              have hq1i : ¬ (q : Int) < R.length := by omega
              have TF : Hid (TeE B lb mb hb 800000 (onceW (depsL K.f s K.ts RX)) wr) := by
                rw [OD.out, ← HLEN.out]
                rw [hqe] at TR
                obtain ⟨rv', c', n', q1, q2⟩ := TR.out
                exact ⟨rv', c', n', q1.relax (by omega), q2⟩
              clear hqe
              go_wp2_with fail
              go_end0
              exact ⟨rfl, TF.out, BR.out⟩
end Go.Proofs.Ytnfbcmnlloipiaa
namespace Go.Proofs.Ytnfbcmnlloipiaa
set_option linter.unusedVariables false
set_option linter.unusedSimpArgs false
open Go.RowKit Go.Lib Go.Maps
open Tx (MTxn)

/-- The dependencies that the list s forces. -/
def edgN (l : List MTxn) (s : ByteArray) : List MWy := onceW (depsL (srcN l s (notes l l.length)) s (knwN l s (notes l l.length)).ts (rdsN l s (notes l l.length)))
/-- A look, and what Edges lays beside it. -/
def edgW (w1 : World) (s : ByteArray) (rv : Value) (ti t2 : Nat) (ta : Option Addr) (tn tc sb : Nat) : World := (((w1.alloc (.cells #[.string s, rv, .int .i64 ti, .int .i64 t2, .slice ta tn tc, .map (some sb)] 80)).alloc (.cells #[.slice none 0 0] 38)).alloc (.map #[] 0)).alloc (.cells #[.map (some (w1.heap.size + 1 + 1))] 97)
theorem edg_start (w1 : World) (s : ByteArray) (rv : Value) (ti t2 : Nat) (ta : Option Addr) (tn tc sb : Nat) : TeE (w1.heap.size + 4) (w1.heap.size + 1) (w1.heap.size + 1 + 1 + 1) (w1.heap.size + 1 + 1) 0 [] (edgW w1 s rv ti t2 ta tn tc sb) ∧ Below (w1.heap.size + 1) (w1.alloc (.cells #[.string s, rv, .int .i64 ti, .int .i64 t2, .slice ta tn tc, .map (some sb)] 80)) (edgW w1 s rv ti t2 ta tn tc sb) := by
  unfold edgW
  have s1 : (w1.alloc (.cells #[.string s, rv, .int .i64 ti, .int .i64 t2, .slice ta tn tc, .map (some sb)] 80)).heap.size = w1.heap.size + 1 := alloc_size _ _
  generalize w1.alloc (.cells #[.string s, rv, .int .i64 ti, .int .i64 t2, .slice ta tn tc, .map (some sb)] 80) = W0 at *
  have s2 : (W0.alloc (.cells #[.slice none 0 0] 38)).heap.size = w1.heap.size + 1 + 1 := by rw [alloc_size, s1]
  have s3 : ((W0.alloc (.cells #[.slice none 0 0] 38)).alloc (.map #[] 0)).heap.size = w1.heap.size + 1 + 1 + 1 := by rw [alloc_size, s2]
  have mk := MapV.made (W0.alloc (.cells #[.slice none 0 0] 38)) Try.prog 40
  rw [s2] at mk
  refine ⟨⟨.slice none 0 0, fun _ => 0, 0, ⟨?_, World.ownsRow_nil _ _ _ _, ?_, ⟨_, mk.same ?_, fun y => rfl⟩, Nat.le_refl _, fun _ => Nat.le_refl _, Nat.le_refl _, by omega, by omega, by omega, by rw [alloc_size, s3]; omega, by omega, by omega, by omega⟩, fun x => by simp⟩, ?_⟩
  · rw [alloc_at, if_neg (by rw [s3]; omega), alloc_at, if_neg (by rw [s2]; omega), alloc_at, if_pos s1.symm]
  · rw [alloc_at, if_pos s3.symm]
  · rw [alloc_at, if_neg (by rw [s3]; omega)]
  · rw [← s1]
    exact ((below_box W0 _).alloc (by rw [s2]; omega) _).alloc (by rw [s3]; omega) _
set_option maxHeartbeats 4000000 in
set_option maxRecDepth 100000 in
theorem edges_yes (B tb : Nat) (l : List MTxn) (s : ByteArray) (w : World) (h : Made B w tb l) (hs : s.size ≤ maxLen) (hG : Good l) (ho : okN l s) : Calls Try.prog 19 #[.pointer (some ⟨tb, 0, none⟩), .string s] w fun e w' => ∃ v, e = .returned v ∧ w'.ownsRow w.heap.size 40 8 v (edgN l s).length (whysC (edgN l s)) ∧ Below w.heap.size w w' := by
  have TR := hid (trusted_yes B tb l s w h hs hG ho.1 ho.2)
  have hmm := @run_makeMap Try.prog
  have HG := hid hG
  have HS := hid hs
  clear h ho hG hs
  go_enter Try.func19, Try.ntmps19
  go_wp2_with (go_at_call 34; refine TR.out.mono ?_; rintro e w1 ⟨R, t2, ta, tc, n, rv, sb, rfl, ho, hr, hi, hsc, hsb, b1⟩; obtain ⟨ra, rc, hrv⟩ := own_slice ho; subst hrv; have B1 := hid b1; have HO := hid ho; have HR := hid hr; have HI := hid hi; have HSC := hid hsc; clear b1 TR ho hr hi hsc hsb)
  obtain ⟨E1, E2⟩ := edg_start w1 s (.slice ra R.length rc) (knwN l s (notes l l.length)).ti t2 ta (knwN l s (notes l l.length)).ts.length tc sb
  have EW : edgW w1 s (.slice ra R.length rc) (knwN l s (notes l l.length)).ti t2 ta (knwN l s (notes l l.length)).ts.length tc sb = (((w1.alloc (.cells #[.string s, .slice ra R.length rc, .int .i64 (knwN l s (notes l l.length)).ti, .int .i64 t2, .slice ta (knwN l s (notes l l.length)).ts.length tc, .map (some sb)] 80)).alloc (.cells #[.slice none 0 0] 38)).alloc (.map #[] 0)).alloc (.cells #[.map (some (w1.heap.size + 1 + 1))] 97) := rfl
  have DP : Hid (Calls Try.prog 45 #[.pointer (some ⟨w1.heap.size, 0, none⟩), .func (.func 46) #[] #[.pointer (some ⟨w1.heap.size + 1 + 1 + 1, 0, none⟩), .pointer (some ⟨w1.heap.size + 1, 0, none⟩)]] (edgW w1 s (.slice ra R.length rc) (knwN l s (notes l l.length)).ti t2 ta (knwN l s (notes l l.length)).ts.length tc sb) fun e w' => e = .returned (.tuple #[]) ∧ TeE (w1.heap.size + 4) (w1.heap.size + 1) (w1.heap.size + 1 + 1 + 1) (w1.heap.size + 1 + 1) 800000 (edgN l s) w' ∧ Below (w1.heap.size + 1) (w1.alloc (.cells #[.string s, .slice ra R.length rc, .int .i64 (knwN l s (notes l l.length)).ti, .int .i64 t2, .slice ta (knwN l s (notes l l.length)).ts.length tc, .map (some sb)] 80)) w') := by
    have s1 : (w1.alloc (.cells #[.string s, .slice ra R.length rc, .int .i64 (knwN l s (notes l l.length)).ti, .int .i64 t2, .slice ta (knwN l s (notes l l.length)).ts.length tc, .map (some sb)] 80)).heap.size = w1.heap.size + 1 := alloc_size _ _
    have bb := below_box w1 (.cells #[.string s, .slice ra R.length rc, .int .i64 (knwN l s (notes l l.length)).ti, .int .i64 t2, .slice ta (knwN l s (notes l l.length)).ts.length tc, .map (some sb)] 80)
    obtain ⟨F, hF, _⟩ := id HSC.out
    have q := deps_is (knwN l s (notes l l.length)) w.heap.size w1.heap.size sb n (w1.heap.size + 4) (w1.heap.size + 1) (w1.heap.size + 1 + 1 + 1) (w1.heap.size + 1 + 1) s (.slice ra R.length rc) R (rdsN l s (notes l l.length)) t2 ta tc (w1.alloc (.cells #[.string s, .slice ra R.length rc, .int .i64 (knwN l s (notes l l.length)).ti, .int .i64 t2, .slice ta (knwN l s (notes l l.length)).ts.length tc, .map (some sb)] 80)) _ ⟨heap_alloc_new w1 _, own_same HO.out (fun g hg => bb.block g (own_block HO.out hg).2.1)⟩ (HR.out.rds.later bb) (by have := HG.out.rlen (s := s); omega) ((HI.out.keep (fun _ _ _ => rfl) (fun _ _ _ => trivial)).below bb) HG.out.trace.1 HG.out.trace.2 (fun r hr => ⟨by
      obtain ⟨x, hx, rfl⟩ := rds_mem hr
      have := (notes_at _ hx).1
      have := HG.out.len
      show x.1 < _
      omega, (HG.out.rop hr).1, (HG.out.rop hr).2⟩) (HSC.out.same (bb.block sb hF.lt)) HS.out (fun x => (HG.out.src x).1) E1 (by rw [s1]; exact E2) (by rw [s1]; omega) (by rw [s1]; omega) (by rw [s1]; omega)
    rw [s1] at q
    exact q
  rw [EW] at DP
  clear E1 E2 EW
  refine DP.out.mono ?_
  rintro e w5 ⟨rfl, t5, b5⟩
  obtain ⟨rv5, c5, n5, T5, _⟩ := t5
  have l5 : w5.cell? ⟨w1.heap.size + 1, 0, none⟩ = some rv5 := Lib.cell_of_heap T5.lbx 0
  have HT5 := hid T5.own
  have B5 : Hid (Below w.heap.size w w5) := by
    have bb := below_box w1 (.cells #[.string s, .slice ra R.length rc, .int .i64 (knwN l s (notes l l.length)).ti, .int .i64 t2, .slice ta (knwN l s (notes l l.length)).ts.length tc, .map (some sb)] 80)
    exact B1.out.trans (((bb.trans (b5.mono (by omega)))).mono B1.out.size)
  clear DP T5 b5 hmm
  go_wp2_with fail
  go_ret
  exact ⟨_, rfl, own_base HT5.out (by have := B1.out.size; omega), B5.out⟩
end Go.Proofs.Ytnfbcmnlloipiaa
namespace Go.Proofs.Ytnfbcmnlloipiaa
set_option linter.unusedVariables false
set_option linter.unusedSimpArgs false
open Go.RowKit Go.Lib Go.Maps
open Tx (MTxn info_parts flatten_len flatten_get RowsIn.cells RowCells TxnRow TxnsIn TxnsOwn setCell_self cloneInts_any OpsOwn smallL cutTxn cutOp)

theorem opsOwn_nil (S : Nat → Prop) (w : World) : OpsOwn S w (.slice none 0 0) [] := ⟨none, 0, rfl, ⟨by simp, Nat.le_refl _⟩, fun h => absurd h (Nat.lt_irrefl _)⟩
set_option maxHeartbeats 4000000 in
set_option maxRecDepth 100000 in
theorem ttx_off (B : Nat) (w : World) (tb : Nat) (l : List MTxn) (h : Made B w tb l) (n : Int) (hn : n < 0 ∨ (l.length : Int) ≤ n) :
    Calls Try.prog 67 #[.pointer (some ⟨tb, 0, none⟩), .int .i64 n] w fun e w' => TxPost (0, 0, 0, 0, []) w e w' := by
  have CO : Hid (∀ W, Below w.heap.size w W → Calls Try.prog 21 #[.pointer (some ⟨tb, 0, none⟩)] W fun e w' => e = .returned (.int .i64 (l.length : Int)) ∧ W = w') := fun W hb => count_is B W tb l (h.later hb)
  have FIN : ∀ W v0 v1 v2 v3 v4, Hid (Below w.heap.size w W → Below w.heap.size w (((((W.setCell ⟨w.heap.size, 0, none⟩ v0).setCell ⟨w.heap.size, 1, none⟩ v1).setCell ⟨w.heap.size, 2, none⟩ v2).setCell ⟨w.heap.size, 3, none⟩ v3).setCell ⟨w.heap.size, 4, none⟩ v4)) := fun W v0 v1 v2 v3 v4 hb => ((((hb.setCell (Nat.le_refl _) _).setCell (Nat.le_refl _) _).setCell (Nat.le_refl _) _).setCell (Nat.le_refl _) _).setCell (Nat.le_refl _) _
  have BX : ∀ x, Hid (Below w.heap.size w (w.alloc x)) := fun x => below_box w x
  clear h
  by_cases h0 : n < 0
  · have hd0 : decide (n < 0) = true := by simpa using h0
    go_enter Try.func67, Try.ntmps67
    go_wp2_with fail
    refine bodyPost_ret (v := .agg #[.int .i64 0, .int .i64 0, .int .i64 0, .int .i64 0, .slice none 0 0]) (by simp [results, Try.results67, go_sem]) rfl ?_
    exact ⟨none, 0, 0, rfl, opsOwn_nil _ _, (BX _).out⟩
  · have h1 : (l.length : Int) ≤ n := by omega
    have hd0 : decide (n < 0) = false := by simpa using h0
    have hd1 : decide ((l.length : Int) ≤ n) = true := by simpa using h1
    go_enter Try.func67, Try.ntmps67
    go_wp2_with (go_at_call 21; refine (CO.out _ (BX _).out).mono ?_; rintro e w' ⟨rfl, rfl⟩)
    refine bodyPost_ret (v := .agg #[.int .i64 0, .int .i64 0, .int .i64 0, .int .i64 0, .slice none 0 0]) (by simp [results, Try.results67, go_sem]) rfl ?_
    exact ⟨none, 0, 0, rfl, opsOwn_nil _ _, (BX _).out⟩
theorem kind_stays (N M : List MN) (s : ByteArray) (h : kindN N s ≠ 0) : kindN (N ++ M) s = kindN N s := by
  unfold kindN at h ⊢
  rw [List.find?_append]
  cases hf : N.find? (fun x => decide (x.2.2.key = s ∧ thing x.2.2.kind ≠ 0)) with
  | none =>
    rw [hf] at h
    simp at h
  | some y => rfl
theorem notes_part (l : List MTxn) : ∀ n k j, k < n → j ≤ (l.getD k default).ops.length → ∃ M, notes l n = (notes l k ++ (notesT k (l.getD k default).ops).take j) ++ M
  | 0, k, j, h, _ => absurd h (Nat.not_lt_zero _)
  | n + 1, k, j, h, hj => by
    rw [notes]
    by_cases e : k = n
    · subst e
      exact ⟨(notesT k (l.getD k default).ops).drop j, by rw [List.append_assoc, List.take_append_drop]⟩
    · obtain ⟨M, hM⟩ := notes_part l n k j (by omega) hj
      exact ⟨M ++ notesT n (l.getD n default).ops, by rw [hM, List.append_assoc]⟩
set_option maxHeartbeats 8000000 in
set_option maxRecDepth 100000 in
theorem rkind_is {S : Nat → Prop} (w : World) (v : Value) (l : List MTxn) (s : ByteArray) (h : TxnsIn S w v l) (hl : l.length ≤ 1000) (hten : ∀ t ∈ l, t.ops.length ≤ 10) :
    Calls Try.prog 35 #[v, .string s] w fun e w' => e = .returned (.int .i64 (kindN (notes l l.length) s)) ∧ Below w.heap.size w w' := by
  obtain ⟨a1, c1, rfl, l1, k1⟩ := RowsIn.cells h (by omega)
  have HC := hid k1
  have HTEN := hid hten
  have hli : (l.length : Int) ≤ 1000 := by omega
  clear h k1 hten
  go_enter Try.func35, Try.ntmps35
  go_wp2_with fail
  go_loopg [6, 8, 11] l.length (fun gg _ _ i wr => ∃ k : Nat, k ≤ l.length ∧ l.length - k ≤ gg ∧ i = .int .i64 k ∧ Aside (Below w.heap.size w wr) ∧ Aside (kindN (notes l k) s = 0))
  case atStart => exact ⟨0, Nat.zero_le _, by omega, rfl, Below.refl _ _, rfl⟩
  case round =>
    obtain ⟨k, hk, hgk, rfl, BR, OR⟩ := hrel
    by_cases hlt : k < l.length
    · have hlti : (k : Int) < l.length := by omega
      obtain ⟨b, o, cs, rfl, hbl, _, ⟨ov, hcs, hops⟩, hcell⟩ := HC.out k hlt
      subst hcs
      obtain ⟨oa, oc, hov, hol, hoc⟩ := id hops
      subst hov
      have d0 := (BR.out.cell (p := ⟨b, o + k * 5 + 0, none⟩) hbl).trans (hcell 0 _ rfl)
      have d1 := (BR.out.cell (p := ⟨b, o + k * 5 + 1, none⟩) hbl).trans (hcell 1 _ rfl)
      have d2 := (BR.out.cell (p := ⟨b, o + k * 5 + 2, none⟩) hbl).trans (hcell 2 _ rfl)
      have d3 := (BR.out.cell (p := ⟨b, o + k * 5 + 3, none⟩) hbl).trans (hcell 3 _ rfl)
      have d4 := (BR.out.cell (p := ⟨b, o + k * 5 + 4, none⟩) hbl).trans (hcell 4 _ rfl)
      rw [Nat.add_zero] at d0
      have hten : (l.getD k default).ops.length ≤ 10 := HTEN.out _ (getD_mem l k hlt)
      have HNT : Hid (notes l (k + 1) = notes l k ++ notesT k (l.getD k default).ops) := rfl
      have HPT : Hid (∀ j, j ≤ (l.getD k default).ops.length → ∃ M, notes l l.length = (notes l k ++ (notesT k (l.getD k default).ops).take j) ++ M) := fun j hj => notes_part l l.length k j hlt hj
      have HOC := hid hoc
      have BN : ∀ x, Hid (Below w.heap.size w (wr.alloc x)) := fun x => BR.out.trans ((below_box wr _).mono BR.out.size)
      generalize (l.getD k default).ops = T at *
      generalize l.getD k default = TX at *
      clear hcell hops hoc
      go_wp2_with fail
      have hTi : (T.length : Int) ≤ 10 := by omega
      have OR2 := hid OR.out
      go_loopg [8, 18] T.length (fun gg _ i wi => ∃ j : Nat, j ≤ T.length ∧ T.length - j ≤ gg ∧ i = .int .i64 j ∧ Aside (Below w.heap.size w wi) ∧ Aside (kindN (notes l k ++ (notesT k T).take j) s = 0))
      case atStart => exact ⟨0, Nat.zero_le _, by omega, rfl, (BN _).out, (by rw [List.take_zero, List.append_nil]; exact OR2.out)⟩
      case round =>
        clear BN BR OR OR2 d0 d1 d2 d3 d4
        obtain ⟨j, hj, hgj, rfl, BJ, OJ⟩ := hrel
        by_cases hjl : j < T.length
        · have hjli : (j : Int) < T.length := by omega
          obtain ⟨ob, oo, rfl, _, hcs⟩ := HOC.out (by omega)
          obtain ⟨cs, _, ⟨lv, hcse, hli2⟩, hcell⟩ := hcs j hjl
          subst hcse
          obtain ⟨la, lc, rfl, _⟩ := id hli2
          have hobl := World.block_lt_of_cell? _ _ (hcell 0 _ rfl)
          have x0 := (BJ.out.cell (p := ⟨ob, oo + j * 6 + 0, none⟩) hobl).trans (hcell 0 _ rfl)
          have x1 := (BJ.out.cell (p := ⟨ob, oo + j * 6 + 1, none⟩) hobl).trans (hcell 1 _ rfl)
          have x2 := (BJ.out.cell (p := ⟨ob, oo + j * 6 + 2, none⟩) hobl).trans (hcell 2 _ rfl)
          have x3 := (BJ.out.cell (p := ⟨ob, oo + j * 6 + 3, none⟩) hobl).trans (hcell 3 _ rfl)
          have x4 := (BJ.out.cell (p := ⟨ob, oo + j * 6 + 4, none⟩) hobl).trans (hcell 4 _ rfl)
          have x5 := (BJ.out.cell (p := ⟨ob, oo + j * 6 + 5, none⟩) hobl).trans (hcell 5 _ rfl)
          rw [Nat.add_zero] at x0
          have KS : Hid (kindN (notes l k ++ (notesT k T).take (j + 1)) s = if (T.getD j default).key = s then thing (T.getD j default).kind else 0) := by
            show _ = _
            rw [notesT_take k T j hjl, ← List.append_assoc, kind_snoc, if_pos OJ.out]
          have KE : Hid (kindN (notes l k ++ (notesT k T).take (j + 1)) s ≠ 0 → kindN (notes l l.length) s = kindN (notes l k ++ (notesT k T).take (j + 1)) s) := fun hne => by
            obtain ⟨M, hM⟩ := HPT.out (j + 1) (by omega)
            rw [hM]
            exact kind_stays _ _ _ hne
          have BN : ∀ x, Hid (Below w.heap.size w (wr.alloc x)) := fun x => BJ.out.trans ((below_box wr _).mono BJ.out.size)
          clear hcell hcs hli2 OJ
          generalize T.getD j default = O at *
          obtain ⟨ok, os, ovv, ol, oh, on⟩ := O
          simp only [MOp.kind, MOp.key, MOp.value, MOp.list, MOp.has, MOp.nl] at x0 x1 x2 x3 x4 x5 KS
          by_cases hks : os = s
          · have hkb : (os.toList == s.toList) = true := by rw [hks]; simp
            have K2 : Hid (kindN (notes l k ++ (notesT k T).take (j + 1)) s = thing ok) := by have := KS.out; rw [if_pos hks] at this; exact this
            clear KS hks
            by_cases h1 : ok = 1
            · subst h1
              have e9 : Hid (kindN (notes l l.length) s = 1) := by
                have h9 : thing 1 = 1 := by decide
                have h8 := K2.out
                rw [h9] at h8
                exact (KE.out (by rw [h8]; decide)).trans h8
              clear K2 KE
              go_wp2_with fail
              go_ret
              exact ⟨by rw [e9.out]; rfl, (BN _).out⟩
            · skip
              by_cases h2 : ok = 2
              · subst h2
                have e9 : Hid (kindN (notes l l.length) s = 1) := by
                  have h9 : thing 2 = 1 := by decide
                  have h8 := K2.out
                  rw [h9] at h8
                  exact (KE.out (by rw [h8]; decide)).trans h8
                clear K2 KE
                go_wp2_with fail
                go_ret
                exact ⟨by rw [e9.out]; rfl, (BN _).out⟩
              · skip
                by_cases h3 : ok = 3
                · subst h3
                  have e9 : Hid (kindN (notes l l.length) s = 3) := by
                    have h9 : thing 3 = 3 := by decide
                    have h8 := K2.out
                    rw [h9] at h8
                    exact (KE.out (by rw [h8]; decide)).trans h8
                  clear K2 KE
                  go_wp2_with fail
                  go_ret
                  exact ⟨by rw [e9.out]; rfl, (BN _).out⟩
                · skip
                  by_cases h4 : ok = 4
                  · subst h4
                    have e9 : Hid (kindN (notes l l.length) s = 3) := by
                      have h9 : thing 4 = 3 := by decide
                      have h8 := K2.out
                      rw [h9] at h8
                      exact (KE.out (by rw [h8]; decide)).trans h8
                    clear K2 KE
                    go_wp2_with fail
                    go_ret
                    exact ⟨by rw [e9.out]; rfl, (BN _).out⟩
                  · skip
                    have b1 : (ok == 1) = false := by simpa using h1
                    have b2 : (ok == 2) = false := by simpa using h2
                    have b3 : (ok == 3) = false := by simpa using h3
                    have b4 : (ok == 4) = false := by simpa using h4
                    have K3 : Hid (kindN (notes l k ++ (notesT k T).take (j + 1)) s = 0) := by have := K2.out; rw [show thing ok = 0 from by simp [thing, h1, h2, h3, h4]] at this; exact this
                    clear K2 KE
                    go_wp2_with fail
                    go_roundg (T.length - (j + 1))
                    case measure => omega
                    case rel => exact ⟨j + 1, by omega, by omega, by go_num, (BN _).out, K3.out⟩
          · have hkb : (os.toList == s.toList) = false := by
              cases hc : (os.toList == s.toList) with
              | false => rfl
              | true => exact absurd (cond_ws ▸ hc) hks
            have K2 : Hid (kindN (notes l k ++ (notesT k T).take (j + 1)) s = 0) := by have := KS.out; rw [if_neg hks] at this; exact this
            clear KS KE
            go_wp2_with fail
            go_roundg (T.length - (j + 1))
            case measure => omega
            case rel => exact ⟨j + 1, by omega, by omega, by go_num, (BN _).out, K2.out⟩
        · have hje : j = T.length := by omega
          rw [hje, List.take_of_length_le (by rw [notesT_len]; exact Nat.le_refl _)] at OJ
          clear hje
          go_wp2_with fail
          go_roundg (l.length - (k + 1))
          case measure => omega
          case rel => exact ⟨k + 1, by omega, by omega, by go_num, BJ.out, (by rw [HNT.out]; exact OJ.out)⟩
    · have hke : k = l.length := by omega
      have OE : Hid (kindN (notes l l.length) s = 0) := by rw [hke] at OR; exact OR.out
      clear hke
      go_wp2_with fail
      go_ret
      exact ⟨by rw [OE.out]; rfl, BR.out⟩
end Go.Proofs.Ytnfbcmnlloipiaa
namespace Go.Proofs.Ytnfbcmnlloipiaa
set_option linter.unusedVariables false
set_option linter.unusedSimpArgs false
open Go.RowKit Go.Lib Go.Maps

abbrev Bs := List UInt8
/-- One key is met while another one is put in its place. -/
def stK (key : Bs) (p : List Bs × Bool) (k : Bs) : List Bs × Bool :=
  let q := if p.2 = false ∧ ¬ k < key then (p.1 ++ [key], true) else p
  (if k = key then q.1 else q.1 ++ [k], q.2)
def foK (key : Bs) (out : List Bs) (j : Nat) : List Bs × Bool := (out.take j).foldl (stK key) ([], false)
theorem foK_succ (key : Bs) (out : List Bs) (j : Nat) (h : j < out.length) : foK key out (j + 1) = stK key (foK key out j) (out.getD j default) := by
  unfold foK
  rw [List.take_succ_eq_append_getElem h, List.foldl_append]
  simp [List.getD, List.getElem?_eq_getElem h]
def insK (key : Bs) (out : List Bs) : List Bs := if (foK key out out.length).2 = true then (foK key out out.length).1 else (foK key out out.length).1 ++ [key]
theorem lt_of_ge {a b : Bs} (h : ¬ b < a) (hne : b ≠ a) : a < b := by
  have h1 : a ≤ b := List.not_lt.1 h
  apply Classical.byContradiction
  intro c
  exact hne (List.le_antisymm (List.not_lt.1 c) h1)
/-- Strictly rising. -/
abbrev Ris (l : List Bs) : Prop := l.Pairwise (· < ·)
theorem ris_snoc {l : List Bs} {x : Bs} (h : Ris l) (hx : ∀ y ∈ l, y < x) : Ris (l ++ [x]) := by
  refine List.pairwise_append.2 ⟨h, by simp, fun a ha b hb => ?_⟩
  obtain rfl : b = x := by simpa using hb
  exact hx a ha
theorem ris_at {l : List Bs} (h : Ris l) {i j : Nat} (hij : i < j) (hj : j < l.length) : l.getD i default < l.getD j default := by
  rw [getD_at l i (by omega), getD_at l j hj]
  exact List.pairwise_iff_getElem.1 h i j (by omega) hj hij
theorem mem_take_at {l : List Bs} {j : Nat} {x : Bs} (h : x ∈ l.take j) : ∃ i, i < j ∧ i < l.length ∧ l.getD i default = x := by
  obtain ⟨i, hi, e⟩ := List.mem_iff_getElem.1 h
  rw [List.length_take] at hi
  refine ⟨i, by omega, by omega, ?_⟩
  rw [getD_at l i (by omega), ← e, List.getElem_take]
/-- What is known behind j keys. -/
def FoI (key : Bs) (out : List Bs) (j : Nat) (p : List Bs × Bool) : Prop :=
  Ris p.1 ∧ (∀ x, x ∈ p.1 ↔ x ∈ out.take j ∨ (p.2 = true ∧ x = key)) ∧ (p.2 = false → ∀ x ∈ out.take j, x < key) ∧ (p.2 = true → 0 < j ∧ ¬ out.getD (j - 1) default < key)
theorem take_mem (out : List Bs) (j : Nat) (h : j < out.length) (x : Bs) : x ∈ out.take (j + 1) ↔ x ∈ out.take j ∨ x = out.getD j default := by
  rw [List.take_succ_eq_append_getElem h, List.mem_append, getD_at out j h]
  simp
theorem fo_step (key : Bs) (out : List Bs) (hr : Ris out) (j : Nat) (hj : j < out.length) (p : List Bs × Bool) (h : FoI key out j p) : FoI key out (j + 1) (stK key p (out.getD j default)) := by
  obtain ⟨h1, h2, h3, h4⟩ := h
  obtain ⟨nx, put⟩ := p
  generalize hk : out.getD j default = k at *
  have hbef : ∀ x ∈ out.take j, x < k := fun x hx => by
    obtain ⟨i, hi, hil, e⟩ := mem_take_at hx
    rw [← e, ← hk]
    exact ris_at hr hi hj
  have hm := take_mem out j hj
  rw [hk] at hm
  cases put with
  | true =>
    obtain ⟨h0, h5⟩ := h4 rfl
    have hlk : out.getD (j - 1) default < k := by rw [← hk]; exact ris_at hr (by omega) hj
    have hkk : key < k := by
      have : key ≤ out.getD (j - 1) default := List.not_lt.1 h5
      exact List.lt_of_le_of_lt this hlk
    have hne : k ≠ key := fun e => by rw [e] at hkk; exact List.lt_irrefl _ hkk
    have est : stK key (nx, true) k = (nx ++ [k], true) := by simp [stK, hne]
    rw [est]
    refine ⟨ris_snoc h1 (fun y hy => ?_), fun x => ?_, fun c => (by cases c), fun _ => ⟨by omega, ?_⟩⟩
    · rcases (h2 y).1 hy with c | c
      · exact hbef y c
      · rw [c.2]; exact hkk
    · rw [List.mem_append, h2 x, hm x]
      simp only [List.mem_singleton]
      constructor
      · rintro ((c | c) | c)
        · exact .inl (.inl c)
        · exact .inr c
        · exact .inl (.inr c)
      · rintro ((c | c) | c)
        · exact .inl (.inl c)
        · exact .inr c
        · exact .inl (.inr c)
    · rw [Nat.add_sub_cancel, hk]
      exact fun c => List.lt_irrefl _ (List.lt_trans c hkk)
  | false =>
    have hall := h3 rfl
    by_cases hlt : k < key
    · have hne : k ≠ key := fun e => by rw [e] at hlt; exact List.lt_irrefl _ hlt
      have est : stK key (nx, false) k = (nx ++ [k], false) := by simp [stK, hlt, hne]
      rw [est]
      refine ⟨ris_snoc h1 (fun y hy => ?_), fun x => ?_, fun _ x hx => ?_, fun c => (by cases c)⟩
      · rcases (h2 y).1 hy with c | c
        · exact hbef y c
        · exact absurd c.1 (by simp)
      · rw [List.mem_append, h2 x, hm x]
        simp
      · rcases (hm x).1 hx with c | c
        · exact hall x c
        · rw [c]; exact hlt
    · by_cases hne : k = key
      · have est : stK key (nx, false) k = (nx ++ [key], true) := by simp [stK, hne, List.lt_irrefl]
        rw [est]
        refine ⟨ris_snoc h1 (fun y hy => ?_), fun x => ?_, fun c => (by cases c), fun _ => ⟨by omega, by rw [Nat.add_sub_cancel, hk]; exact hlt⟩⟩
        · rcases (h2 y).1 hy with c | c
          · exact hall y c
          · exact absurd c.1 (by simp)
        · rw [List.mem_append, h2 x, hm x]
          simp [hne]
      · have hkk : key < k := lt_of_ge hlt hne
        have est : stK key (nx, false) k = (nx ++ [key] ++ [k], true) := by simp [stK, hlt, hne]
        rw [est]
        have hs1 : Ris (nx ++ [key]) := ris_snoc h1 (fun y hy => by
          rcases (h2 y).1 hy with c | c
          · exact hall y c
          · exact absurd c.1 (by simp))
        refine ⟨ris_snoc hs1 (fun y hy => ?_), fun x => ?_, fun c => (by cases c), fun _ => ⟨by omega, by rw [Nat.add_sub_cancel, hk]; exact hlt⟩⟩
        · rcases List.mem_append.1 hy with c | c
          · rcases (h2 y).1 c with c | c
            · exact hbef y c
            · exact absurd c.1 (by simp)
          · obtain rfl : y = key := by simpa using c
            exact hkk
        · rw [List.mem_append, List.mem_append, h2 x, hm x]
          simp
          constructor
          · rintro ((c | c) | c)
            · exact .inl (.inl c)
            · exact .inr c
            · exact .inl (.inr c)
          · rintro ((c | c) | c)
            · exact .inl (.inl c)
            · exact .inr c
            · exact .inl (.inr c)
theorem fo_all (key : Bs) (out : List Bs) (hr : Ris out) : ∀ j, j ≤ out.length → FoI key out j (foK key out j)
  | 0, _ => ⟨by simp [foK], fun x => by simp [foK], fun _ x hx => by simp at hx, fun c => by simp [foK] at c⟩
  | j + 1, h => by
    rw [foK_succ key out j (by omega)]
    exact fo_step key out hr j (by omega) _ (fo_all key out hr j (by omega))
theorem ins_ris (key : Bs) (out : List Bs) (hr : Ris out) : Ris (insK key out) ∧ ∀ x, x ∈ insK key out ↔ x ∈ out ∨ x = key := by
  obtain ⟨h1, h2, h3, h4⟩ := fo_all key out hr out.length (Nat.le_refl _)
  rw [List.take_of_length_le (Nat.le_refl _)] at h2 h3
  unfold insK
  by_cases hp : (foK key out out.length).2 = true
  · rw [if_pos hp]
    exact ⟨h1, fun x => by rw [h2 x]; simp [hp]⟩
  · rw [if_neg hp]
    have hf : (foK key out out.length).2 = false := by simpa using hp
    refine ⟨ris_snoc h1 (fun y hy => ?_), fun x => ?_⟩
    · rcases (h2 y).1 hy with c | c
      · exact h3 hf y c
      · exact absurd c.1 hp
    · rw [List.mem_append, h2 x]
      simp [hf]
theorem fo_len (key : Bs) (out : List Bs) : ∀ j, j ≤ out.length → (foK key out j).1.length ≤ j + (if (foK key out j).2 = true then 1 else 0)
  | 0, _ => by simp [foK]
  | j + 1, h => by
    have ih := fo_len key out j (by omega)
    rw [foK_succ key out j (by omega)]
    generalize foK key out j = p at *
    obtain ⟨nx, put⟩ := p
    generalize out.getD j default = k
    unfold stK
    by_cases h1 : put = false ∧ ¬ k < key
    · obtain ⟨h1, h2⟩ := h1
      subst h1
      simp only [h2] at ih ⊢
      by_cases e : k = key <;> simp [e] at ih ⊢ <;> omega
    · cases put with
      | true => by_cases e : k = key <;> simp [e] at ih ⊢ <;> omega
      | false =>
        have h2 : k < key := Classical.byContradiction (fun c => h1 ⟨rfl, c⟩)
        have e : k ≠ key := fun c => by rw [c] at h2; exact List.lt_irrefl _ h2
        simp [h2, e] at ih ⊢
        omega
theorem ins_len (key : Bs) (out : List Bs) : (insK key out).length ≤ out.length + 1 := by
  have h := fo_len key out out.length (Nat.le_refl _)
  unfold insK
  split
  · rename_i c
    rw [if_pos c] at h
    exact h
  · rename_i c
    rw [if_neg c] at h
    rw [List.length_append]
    simp
    omega
/-- All keys of what was noted. -/
def keysN : List MN → List Bs → List Bs
  | [], out => out
  | x :: N, out => keysN N (if thing x.2.2.kind = 0 then out else insK x.2.2.key.data.toList out)
theorem keysN_snoc (N : List MN) (x : MN) : ∀ out, keysN (N ++ [x]) out = if thing x.2.2.kind = 0 then keysN N out else insK x.2.2.key.data.toList (keysN N out) := by
  induction N with
  | nil => intro out; rfl
  | cons y N ih => intro out; exact ih _
theorem bytes_eq {a b : ByteArray} (h : a.data.toList = b.data.toList) : a = b := WideShapes.bytes_inj h
theorem keysN_is (N : List MN) : Ris (keysN N []) ∧ ∀ s : ByteArray, s.data.toList ∈ keysN N [] ↔ kindN N s ≠ 0 := by
  rw [← List.reverse_reverse N]
  generalize N.reverse = M
  induction M with
  | nil => exact ⟨by simp [keysN], fun s => by simp [keysN, kindN]⟩
  | cons x M ih =>
    rw [List.reverse_cons]
    generalize M.reverse = N at *
    obtain ⟨h1, h2⟩ := ih
    rw [keysN_snoc]
    by_cases ht : thing x.2.2.kind = 0
    · rw [if_pos ht]
      refine ⟨h1, fun s => ?_⟩
      rw [h2 s, kind_snoc]
      by_cases e : kindN N s = 0
      · simp [e, ht]
      · simp [e]
    · rw [if_neg ht]
      obtain ⟨h3, h4⟩ := ins_ris x.2.2.key.data.toList _ h1
      refine ⟨h3, fun s => ?_⟩
      rw [h4, h2 s, kind_snoc]
      by_cases e : kindN N s = 0
      · by_cases ek : x.2.2.key = s
        · simp [e, ek, ht]
        · have : s.data.toList ≠ x.2.2.key.data.toList := fun c => ek (bytes_eq c).symm
          simp [e, ek, this]
      · simp [e]
end Go.Proofs.Ytnfbcmnlloipiaa
