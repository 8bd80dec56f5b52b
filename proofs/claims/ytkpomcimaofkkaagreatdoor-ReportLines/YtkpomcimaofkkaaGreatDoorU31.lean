/-
  The document's Parse of a report's text.
-/
import Derived.Test.YtkpomcimaofkkaaGreatDoorU29
namespace Go.Proofs.YtkpomcimaofkkaaGreatDoor.Rp
set_option linter.unusedVariables false
set_option linter.unusedSimpArgs false
open Go.RowKit Go.Lib

theorem rqAn_9_le (k : Int) (t : Int) (o : Int) (p : Int) (s : ByteArray) (v : Int) (e : Bool) (m : Int) (r : Qr) : (rqAn_9 k t o p s v e m r).2.1.length ≤ r.1.length := by
  have h := rqDeps_cnt (r.1.length + 1) r []
  show (rqDeps (r.1.length + 1) r []).2.1.length ≤ _
  simp at h
  omega
theorem rqAn_le (r : Qr) : (rqAn r).2.1.length ≤ (rqTake r 1 wAnomaly).2.1.length := by
  show (rqAn_1 (rqTake r 1 wAnomaly).2).2.1.length ≤ _
  generalize (rqTake r 1 wAnomaly).2 = r0
  refine Nat.le_trans (rqAn_9_le _ _ _ _ _ _ _ _ _) (Nat.le_trans (rqOne_le levelWs 0 _) (Nat.le_trans (rqEither_le _ _ _) (Nat.le_trans (rqNum_le _) (Nat.le_trans (rqKey_le _) (Nat.le_trans (rqNum_le _) (Nat.le_trans (rqNum_le _) (Nat.le_trans (rqNum_le _) (rqOne_le rkindWs 0 _))))))))
theorem rqLine_le (r : Qr) : (rqLine r).2.1.length ≤ r.1.length := by
  refine Nat.le_trans (rqLines_le _) ?_
  split
  · exact Nat.le_refl _
  · exact rqTake_le _ _ _
theorem rqAn_lt {r : Qr} (h : rqIs r 1 wAnomaly = true) : (rqLine (rqAn r).2).2.1.length < r.1.length := Nat.lt_of_le_of_lt (Nat.le_trans (rqLine_le _) (rqAn_le r)) (rqTake_lt h)
theorem wp_appendI {o : Oper} {A : Act} {K : Act → World → Prop} {Q : Exit → Act → World → Prop} (base : Nat) (V : World) (s x : Operand)
    (ho : o.op = .call { callee := .builtin .append, args := #[s, x], argTypes := #[23, 23] }) (out : Value) (n : Nat) (xs : List Value) (y : Int) (hs : A.eval s = out) (nb : Nat) (hx : A.eval x = .slice (some ⟨nb, 0, none⟩) 1 1) (hblk : V.heap[nb]? = some (.cells #[.int .i64 y] 3))
    (h1 : V.ownsRow base 3 1 out n xs) (hb : base ≤ V.heap.size) (hl : n ≤ 400000)
    (hK : ∀ g cap V', V'.ownsRow base 3 1 (.slice (some ⟨g, 0, none⟩) (n + 1) cap) (n + 1) (xs ++ [.int .i64 y]) → V.grownBy V' out.ownBlock → (out.ownBlock = some g ∨ g = V.heap.size) → K (A.put o.dst (.slice (some ⟨g, 0, none⟩) (n + 1) cap)) V') : o.wp Tryz.prog A V K Q := by
  obtain ⟨i0, hi0, hz0, hz1, hz2⟩ := info_parts Tryz.infoInt
  refine wp_append_lies V s x 23 ho base 3 i0 _ 1 8 Tryz.underlying23 hi0 hz0 hz1 hz2 rfl (by decide) out n xs hs h1 ⟨nb, 0, none⟩ 1 1 [.int .i64 y] hx rfl (World.news_of_block (cs := #[.int .i64 y]) (t := 3) (fr := (0, 0)) hblk) ?_ (by decide) (by unfold maxLen; omega) (by omega) (by omega) V.heap.size rfl ?_
  · intro u hu
    simp only [List.mem_cons, List.not_mem_nil, or_false] at hu
    rcases hu with rfl
    rfl
  · intro g cap V' q1 q2 q3 _
    exact hK g cap V' q1 q2 q3
theorem BoxK.near {B B2 bx o rv : Nat} {wr V V' : World} {t : TypeId} {cs : Array Value} (h : BoxK B bx o wr V rv t cs) (hn : NearB bx B2 V V') (hr : rv < B2) (hs : wr.heap.size ≤ B2) (hnb : rv ≠ bx) : BoxK B bx o wr V' rv t cs :=
  ⟨hn.box h.box hr hnb, fun b h1 h2 => (hn.block b (by omega) (by have := h.hx; omega)).trans (h.keep b h1 h2), h.hx, h.ho, Nat.le_trans h.sz hn.size⟩
/-- What the document's Parse answers. -/
def DParseR (w : World) (r : Except (Int × Int) MR) (e : Ending) (w' : World) : Prop := match r with
  | .ok x => ∃ v, e = .returned (.tuple #[v, .int .i64 0, .int .i64 0]) ∧ RepV (fun b => w.heap.size ≤ b) w' v x
  | .error f => e = .returned (.tuple #[.agg zRep, .int .i64 f.1, .int .i64 f.2])
theorem scanM_err {s : ByteArray} {a y : Nat} (h : scanM s = .error (a, y)) : ((y : Int) != 0) = true := by
  have go : ∀ (f i : Nat) (acc : List MTok), scanFrom s f i acc = .error (a, y) → ((y : Int) != 0) = true := by
    intro f
    induction f with
    | zero => intro i acc h; cases h
    | succ f ih =>
      intro i acc h
      simp only [scanFrom] at h
      split at h
      · split at h
        · exact ih _ _ h
        · split at h
          · rename_i e he
            cases h
            exact tokM_err he
          · exact ih _ _ h
      · cases h
  unfold scanM at h
  split at h
  · cases h; rfl
  · exact go _ _ _ h
/-- What both readers come to. -/
theorem sim_parse {s : ByteArray} {T : List MTok} (hs : scanM s = .ok T) {x : MR} {l : List MTok} {b : Bool} (h : rqRep (T, false) = (x, (l, b))) : (b = true ∨ ¬ l = [] → parseQ s = .error (0, 210)) ∧ (b = false → l = [] → ∃ l', qRep T = some (x, l')) := by
  have hsim := rep_sim (l := T) (fun t ht => scanM_form hs t ht)
  cases hq : qRep T with
  | none =>
    rw [hq, h] at hsim
    have hsim' : b = true ∨ ¬ l = [] := hsim
    refine ⟨fun _ => parseQ_none hs hq, fun h1 h2 => ?_⟩
    rcases hsim' with c | c
    · rw [h1] at c; cases c
    · exact absurd h2 c
  | some z =>
    rw [hq, h] at hsim
    have hsim' : (x, (l, b)) = (z.1, ([], false)) := hsim
    injection hsim' with h1 h2
    injection h2 with h2 h3
    refine ⟨fun c => ?_, fun _ _ => ?_⟩
    · rcases c with c | c
      · rw [h3] at c; cases c
      · exact absurd h2 c
    · obtain ⟨z1, z2⟩ := z
      have h1' : x = z1 := h1
      subst h1'
      exact ⟨z2, rfl⟩
set_option maxHeartbeats 32000000 in
set_option maxRecDepth 100000 in
theorem dparse_is (s : ByteArray) (w : World) :
    Calls Tryz.prog 8 #[.string s] w fun e w' => DParseR w (parseQ s) e w' ∧ Below w.heap.size w w' := by
  obtain ⟨W0, hW0⟩ : ∃ W0, w.alloc (.cells zRep 25) = W0 := ⟨_, rfl⟩
  have BX0 : Hid (Below w.heap.size w W0) := by rw [← hW0]; exact below_box _ _
  have L0 : BoxW W0 w.heap.size 25 zRep := by rw [← hW0]; exact box_new _ _ _
  have SC := hid (refScan_any s W0)
  cases hsc : scanM s with
  | error q =>
    obtain ⟨a, y⟩ := q
    rw [parseQ_err hsc]
    have hy := scanM_err hsc
    rw [hsc] at SC
    clear hsc
    go_enter Tryz.func8, Tryz.ntmps8
    go_wp2_with fail
    go_at_call 21
    refine SC.out.mono ?_
    rintro e w1 ⟨rfl, b1⟩
    have L1 := L0.later b1
    have B1 : Hid (Below w.heap.size w w1) := BX0.out.trans (b1.mono BX0.out.size)
    obtain ⟨k0, k1, k2, k3, k4, k5⟩ := L1.cells
    have z0 := L1.soft 0
    have z1 := L1.soft 1
    have z2 := L1.soft 2
    have z3 := L1.soft 3
    have z4 := L1.soft 4
    have z5 := L1.soft 5
    clear b1 hW0 L0 L1
    go_wp2_with fail
    refine bodyPost_ret (v := .tuple #[.agg zRep, .int .i64 (a : Int), .int .i64 (y : Int)]) (by simp [results, Tryz.results8, go_sem, k0, k1, k2, k3, k4, k5]) rfl ⟨rfl, ?_⟩
    exact below_put6 B1.out (Nat.le_refl _)
  | ok T =>
    rw [hsc] at SC
    have HFEW := hid (scanM_few hsc)
    have HSC := hid hsc
    clear hsc
    go_enter Tryz.func8, Tryz.ntmps8
    go_wp2_with fail
    go_at_call 21
    refine SC.out.mono ?_
    rintro e w1 ⟨⟨v, rfl, htk, hroom⟩, b1⟩
    have L1 := L0.later b1
    have B1 : Hid (Below w.heap.size w w1) := BX0.out.trans (b1.mono BX0.out.size)
    have hs1 : w.heap.size < w1.heap.size := L1.lt
    have HSZ := hid hs1
    have LQ := hid (left_of_toks htk hroom (Nat.le_refl _))
    obtain ⟨ta, tc, rfl, htk1, htk2⟩ := id htk
    have LH := hid L1
    clear htk1 htk2 htk b1 hW0 L0 L1 hroom BX0 SC
    obtain ⟨bx, hbx⟩ : ∃ bx, w1.heap.size = bx := ⟨_, rfl⟩
    obtain ⟨w0, hw0⟩ : ∃ w0, w1.alloc (.cells #[.slice ta T.length tc, .bool false] 58) = w0 := ⟨_, rfl⟩
    have AB := below_box w1 (.cells #[.slice ta T.length tc, .bool false] 58)
    rw [hw0] at AB
    have XB : BoxW w0 bx 58 #[.slice ta T.length tc, .bool false] := by rw [← hw0, ← hbx]; exact box_new _ _ _
    have DI : Hid (DQ bx (T, false) w0) := ⟨⟨_, XB.cell 0, by rw [← hbx]; exact LQ.out.keep (by rw [hbx]; have := AB; rw [hbx] at this; exact this)⟩, XB.cell 1, XB.soft 0, XB.soft 1, HFEW.out.1⟩
    have BW0 : Hid (Below w.heap.size w w0) := B1.out.trans (AB.mono B1.out.size)
    obtain ⟨rv, hrv⟩ : ∃ rv, w.heap.size = rv := ⟨_, rfl⟩
    have RI := hid (LH.out.later AB)
    rw [hrv] at RI
    have hrx : rv < bx := by rw [← hrv, ← hbx]; exact hs1
    have nR : rv ≠ bx := by omega
    have hrw : w.heap.size ≤ rv := by omega
    have hwbx : w.heap.size ≤ bx := by omega
    have hbx0 : Hid (bx < w0.heap.size) := DI.out.lt
    have HW0 := hid hw0
    clear AB XB LQ hw0 B1 LH
    obtain ⟨qr, hqr⟩ : ∃ qr, rqRep (T, false) = qr := ⟨_, rfl⟩
    have HQ := hid hqr
    clear hqr
    go_wp2_with fail
    rw [HW0.out]
    clear HW0 hbx hs1 HSZ
    go_loopg [] T.length (fun gg wr => ∃ r1 : Qr, r1.1.length ≤ gg ∧ Aside (DQ bx r1 wr ∧ Beside bx w0 wr ∧ BoxW wr rv 25 #[.int .i64 0, .bool false, .slice none 0 0, .int .i64 0, .int .i64 0, .slice none 0 0] ∧ rqLines (T, false) = rqLines r1))
    case atStart => exact ⟨(T, false), Nat.le_refl _, DI.out, Beside.refl _ _, RI.out, rfl⟩
    case round =>
      clear DI RI
      obtain ⟨r1, hg, HX⟩ := hrel
      have S := hid (dis_is bx 4 ⟨#[]⟩ r1 wr HX.out.1)
      cases hs : rqIs r1 4 ⟨#[]⟩ with
      | true =>
        rw [hs] at S
        have K := hid (dtake_is bx 4 ⟨#[]⟩ r1 wr HX.out.1)
        have hlt := rqTake_lt hs
        have hst := hid (rqLines_step hs)
        clear hs
        go_wp2_with (go_at_call 22; refine S.out.mono ?_; rintro e w3 ⟨rfl, rfl⟩)
        go_at_call 23
        refine K.out.mono ?_
        rintro e w3 ⟨rfl, p, b⟩
        have P := hid p
        have B := hid b
        clear p b K
        go_wp2_with fail
        go_roundg (rqTake r1 4 ⟨#[]⟩).2.1.length
        case measure => omega
        case rel => exact ⟨_, Nat.le_refl _, P.out, HX.out.2.1.trans B.out, HX.out.2.2.1.beside B.out nR, by rw [hst.out]; exact HX.out.2.2.2⟩
      | false =>
        rw [hs] at S
        have hst := rqLines_end hs
        obtain ⟨r0, hr0⟩ : ∃ r0, r1 = r0 := ⟨_, rfl⟩
        rw [hr0] at HX hst
        have D0 := hid HX.out.1
        have B0 := hid HX.out.2.1
        have R0 := hid HX.out.2.2.1
        have E0 : Hid (qr = rqR1 (rqTake r0 1 wTxns).2) := by show _ = _; rw [← HQ.out]; show rqR1 (rqTake (rqLines (T, false)) 1 wTxns).2 = _; rw [HX.out.2.2.2, hst]
        clear hs hst HX hr0 hg
        obtain ⟨o, ho⟩ : ∃ o, (wr).heap.size = o := ⟨_, rfl⟩
        obtain ⟨v0, hv0⟩ : ∃ v, (wr).alloc (.cells #[.int .i64 0, .bool false, .slice none 0 0, .int .i64 0, .int .i64 0, .slice none 0 0] 25) = v := ⟨_, rfl⟩
        have AB := below_box (wr) (.cells #[.int .i64 0, .bool false, .slice none 0 0, .int .i64 0, .int .i64 0, .slice none 0 0] 25)
        rw [hv0] at AB
        have A0 : Hid (BoxW v0 o 25 #[.int .i64 0, .bool false, .slice none 0 0, .int .i64 0, .int .i64 0, .slice none 0 0]) := by rw [← hv0, ← ho]; exact box_new _ _ _
        have lA : bx < o := by rw [← ho]; exact D0.out.lt
        have mA : w0.heap.size ≤ o := by rw [← ho]; exact B0.out.size
        have nA : o ≠ bx := by omega
        have nRA : rv ≠ o := by have := R0.out.lt; omega
        have nAR : o ≠ rv := Ne.symm nRA
        have R0n := hid (R0.out.later AB)
        have D0n := hid (D0.out.later AB)
        have B0n := hid (B0.out.trans (Beside.of_below AB))
        clear AB D0 B0 R0
        have D0 := D0n
        have B0 := B0n
        have R0 := R0n
        clear D0n B0n R0n
        have hV0 := hid hv0
        clear hv0
        go_wp2_with (go_at_call 22; refine S.out.mono ?_; rintro e w3 ⟨rfl, rfl⟩)
        rw [hV0.out]
        clear S hV0 ho
        have C0 := hid (dword_is bx ⟨#[116, 120, 110, 115]⟩ r0 (v0) D0.out)
        obtain ⟨⟨tk0, r1⟩, hz0⟩ : ∃ z, rqTake r0 1 wTxns = z := ⟨_, rfl⟩
        have hzb : rqTake r0 1 ⟨#[116, 120, 110, 115]⟩ = (tk0, r1) := hz0
        have C0' : Hid (Calls Tryz.prog 24 #[.pointer (some ⟨bx, 0, none⟩), .string ⟨#[116, 120, 110, 115]⟩] (v0) fun e w' => DT bx (v0) (fun _ => .tuple #[]) ((), r1) e w') := by have q := C0.out; unfold rqText at q; rw [hzb] at q; exact q
        clear C0 hzb
        have E1 : Hid (qr = rqR1 r1) := by show _ = _; rw [E0.out]; rw [hz0]
        clear E0
        go_wp2_with fail
        go_at_call 24
        refine C0'.out.mono ?_
        rintro e w1 ⟨rfl, p, b⟩
        have D1 := hid p
        have b2 := b
        have B1 := hid (B0.out.trans b2)
        have R1 := hid (R0.out.beside b2 nR)
        have A1 := hid (A0.out.beside b2 nA)
        clear p b b2 hz0 D0 B0 R0 A0 C0'
        have C1 := hid (dnum_is bx r1 (w1) D1.out)
        obtain ⟨⟨y0, r2⟩, hz1⟩ : ∃ z, rqNum r1 = z := ⟨_, rfl⟩
        have hzb : rqNum r1 = _ := hz1
        rw [hzb] at C1
        clear hzb
        have E2 : Hid (qr = rqR2 y0 r2) := by show _ = _; rw [E1.out]; unfold rqR1; rw [hz1]
        clear E1
        go_wp2_with fail
        go_at_call 25
        refine C1.out.mono ?_
        rintro e w2 ⟨rfl, p, b⟩
        have D2 := hid p
        have b2 := b
        have B2 := hid (B1.out.trans b2)
        have R2 := hid (R1.out.beside b2 nR)
        have A2 := hid (A1.out.beside b2 nA)
        clear p b b2 hz1 D1 B1 R1 A1 C1
        have s_A0 := A2.out.cell 0
        have f_A0 := A2.out.soft 0
        replace s_A0 : (w2).cell? ⟨o, 0, none⟩ = some (.int .i64 0) := s_A0
        have D2n := hid (D2.out.other (g := o) (i := 0) lA (.int .i64 y0))
        have B2n := hid (B2.out.setNew (p := ⟨o, 0, none⟩) mA (.int .i64 y0))
        have R2n := hid (R2.out.other (i := 0) (u := .int .i64 y0) nRA)
        have A2n : Hid (BoxW ((w2).setCell ⟨o, 0, none⟩ (.int .i64 y0)) o 25 #[.int .i64 y0, .bool false, .slice none 0 0, .int .i64 0, .int .i64 0, .slice none 0 0]) := A2.out.set (i := 0) (u := .int .i64 y0) rfl
        clear D2 B2 R2 A2
        have D2 := D2n
        have B2 := B2n
        have R2 := R2n
        have A2 := A2n
        clear D2n B2n R2n A2n
        have C2 := hid (dline_is bx r2 ((w2).setCell ⟨o, 0, none⟩ (.int .i64 y0)) D2.out)
        obtain ⟨⟨_, r3⟩, hz2⟩ : ∃ z, rqLine r2 = z := ⟨_, rfl⟩
        have hzb : rqLine r2 = _ := hz2
        rw [hzb] at C2
        clear hzb
        have E3 : Hid (qr = rqR3 y0 r3) := by show _ = _; rw [E2.out]; unfold rqR2; rw [hz2]
        clear E2
        go_wp2_with fail
        go_at_call 26
        refine C2.out.mono ?_
        rintro e w3 ⟨rfl, p, b⟩
        have D3 := hid p
        have b2 := b
        have B3 := hid (B2.out.trans b2)
        have R3 := hid (R2.out.beside b2 nR)
        have A3 := hid (A2.out.beside b2 nA)
        clear p b b2 hz2 D2 B2 R2 A2 C2
        have C3 := hid (dword_is bx ⟨#[117, 110, 105, 113, 117, 101]⟩ r3 (w3) D3.out)
        obtain ⟨⟨tk3, r4⟩, hz3⟩ : ∃ z, rqTake r3 1 wUnique = z := ⟨_, rfl⟩
        have hzb : rqTake r3 1 ⟨#[117, 110, 105, 113, 117, 101]⟩ = (tk3, r4) := hz3
        have C3' : Hid (Calls Tryz.prog 24 #[.pointer (some ⟨bx, 0, none⟩), .string ⟨#[117, 110, 105, 113, 117, 101]⟩] (w3) fun e w' => DT bx (w3) (fun _ => .tuple #[]) ((), r4) e w') := by have q := C3.out; unfold rqText at q; rw [hzb] at q; exact q
        clear C3 hzb
        have E4 : Hid (qr = rqR4 y0 r4) := by show _ = _; rw [E3.out]; unfold rqR3; rw [hz3]
        clear E3
        go_wp2_with fail
        go_at_call 24
        refine C3'.out.mono ?_
        rintro e w4 ⟨rfl, p, b⟩
        have D4 := hid p
        have b2 := b
        have B4 := hid (B3.out.trans b2)
        have R4 := hid (R3.out.beside b2 nR)
        have A4 := hid (A3.out.beside b2 nA)
        clear p b b2 hz3 D3 B3 R3 A3 C3'
        have AW4 := hid (below_box (w4) (.cells ([wYes, wNo].map Value.string).toArray 9))
        have hsz4 : w4.heap.size = w4.heap.size := rfl
        have WW4 : Hid (WordsAt ((w4).alloc (.cells ([wYes, wNo].map Value.string).toArray 9)) w4.heap.size [wYes, wNo]) := by rw [← hsz4]; exact words_is _ _
        clear hsz4
        have C4 := hid (done_is bx w4.heap.size 2 [wYes, wNo] r4 _ (D4.out.later AW4.out) WW4.out (by decide))
        obtain ⟨⟨z1, r5⟩, hz4⟩ : ∃ z, rqOne [wYes, wNo] 0 r4 = z := ⟨_, rfl⟩
        have hzb : rqOne [wYes, wNo] 0 r4 = _ := hz4
        rw [hzb] at C4
        clear hzb
        have E5 : Hid (qr = rqR5 y0 (z1 == 0) r5) := by show _ = _; rw [E4.out]; unfold rqR4 rqEither; rw [hz4]
        clear E4
        go_wp2_with fail
        go_at_call 27
        refine C4.out.mono ?_
        rintro e w5 ⟨rfl, p, b⟩
        have D5 := hid p
        have b2 := ((Beside.of_below AW4.out).trans b)
        have B5 := hid (B4.out.trans b2)
        have R5 := hid (R4.out.beside b2 nR)
        have A5 := hid (A4.out.beside b2 nA)
        clear p b b2 hz4 D4 B4 R4 A4 AW4 WW4 C4
        have s_A1 := A5.out.cell 1
        have f_A1 := A5.out.soft 1
        replace s_A1 : (w5).cell? ⟨o, 1, none⟩ = some (.bool false) := s_A1
        have D5n := hid (D5.out.other (g := o) (i := 1) lA (.bool (z1 == 0)))
        have B5n := hid (B5.out.setNew (p := ⟨o, 1, none⟩) mA (.bool (z1 == 0)))
        have R5n := hid (R5.out.other (i := 1) (u := .bool (z1 == 0)) nRA)
        have A5n : Hid (BoxW ((w5).setCell ⟨o, 1, none⟩ (.bool (z1 == 0))) o 25 #[.int .i64 y0, .bool (z1 == 0), .slice none 0 0, .int .i64 0, .int .i64 0, .slice none 0 0]) := A5.out.set (i := 1) (u := .bool (z1 == 0)) rfl
        clear D5 B5 R5 A5
        have D5 := D5n
        have B5 := B5n
        have R5 := R5n
        have A5 := A5n
        clear D5n B5n R5n A5n
        have C5 := hid (dline_is bx r5 ((w5).setCell ⟨o, 1, none⟩ (.bool (z1 == 0))) D5.out)
        obtain ⟨⟨_, r6⟩, hz5⟩ : ∃ z, rqLine r5 = z := ⟨_, rfl⟩
        have hzb : rqLine r5 = _ := hz5
        rw [hzb] at C5
        clear hzb
        have E6 : Hid (qr = rqR6 y0 (z1 == 0) r6) := by show _ = _; rw [E5.out]; unfold rqR5; rw [hz5]
        clear E5
        go_wp2_with fail
        go_at_call 26
        refine C5.out.mono ?_
        rintro e w6 ⟨rfl, p, b⟩
        have D6 := hid p
        have b2 := b
        have B6 := hid (B5.out.trans b2)
        have R6 := hid (R5.out.beside b2 nR)
        have A6 := hid (A5.out.beside b2 nA)
        clear p b b2 hz5 D5 B5 R5 A5 C5
        obtain ⟨BS, hBS⟩ : ∃ BS, (w6).heap.size = BS := ⟨_, rfl⟩
        have hoB : o < BS := by rw [← hBS]; exact A6.out.lt
        have hrB : rv < BS := by rw [← hBS]; exact R6.out.lt
        have hxB : bx < BS := by rw [← hBS]; exact D6.out.lt
        have hwB : w0.heap.size ≤ BS := by rw [← hBS]; exact B6.out.size
        have SZ : Hid (BS ≤ (w6).heap.size) := by rw [← hBS]; exact Nat.le_refl _
        have FW : Hid (r6.1.length ≤ 20000) := D6.out.few
        clear hBS
        obtain ⟨zd, hzd⟩ : ∃ z, rqAns (r6.1.length + 1) r6 [] = z := ⟨_, rfl⟩
        have EL : Hid (qr = rqR7 y0 (z1 == 0) zd.1 zd.2) := by show _ = _; rw [E6.out]; unfold rqR6; rw [hzd]
        have EZ : Hid (zd = rqAns (r6.1.length + 1) r6 []) := hzd.symm
        clear hzd E6
        go_wp2_with fail
        go_loopg [] r6.1.length (fun gm wr => ∃ (r : Qr) (xs : List MA) (ta2 : Option Addr) (tc2 : Nat) (rows : List (List Value)) (f : Nat), r.1.length ≤ gm ∧ Aside (DQ bx r wr ∧ Beside bx w0 wr ∧ BoxW wr o 25 #[.int .i64 y0, .bool (z1 == 0), .slice ta2 xs.length tc2, .int .i64 0, .int .i64 0, .slice none 0 0] ∧ BoxW wr rv 25 #[.int .i64 0, .bool false, .slice none 0 0, .int .i64 0, .int .i64 0, .slice none 0 0] ∧ OutInv 68 9 AnS BS wr (.slice ta2 xs.length tc2) xs.length rows xs ∧ BS ≤ wr.heap.size) ∧ Aside (zd = rqAns f r xs ∧ r.1.length < f ∧ xs.length + r.1.length ≤ 20000))
        case atStart => exact ⟨r6, [], none, 0, [], r6.1.length + 1, Nat.le_refl _, ⟨D6.out, B6.out, A6.out, R6.out, OutInv.nil _ _ _ _ _, SZ.out⟩, ⟨EZ.out, by omega, by simpa using FW.out⟩⟩
        case round =>
          clear D6 B6 A6 R6 SZ FW EZ
          obtain ⟨r7, xs, ta2, tc2, rows, f, hg, HX, HY⟩ := hrel
          have S := hid (dis_is bx 1 ⟨#[97, 110, 111, 109, 97, 108, 121]⟩ r7 wr HX.out.1)
          cases hs : rqIs r7 1 wAnomaly with
          | true =>
            have hs2 : rqIs r7 1 ⟨#[97, 110, 111, 109, 97, 108, 121]⟩ = true := hs
            rw [hs2] at S
            obtain ⟨f, rfl⟩ : ∃ f0, f = f0 + 1 := ⟨f - 1, by have := HY.out.2.1; omega⟩
            have HD := hid (danom_is bx r7 wr.drew (HX.out.1.keep (below_drew1 (Below.refl _ _))))
            have hlt2 := rqAn_lt hs
            have HZ : Hid (zd = rqAns f (rqLine (rqAn r7).2).2 (xs ++ [(rqAn r7).1])) := by show _ = _; rw [HY.out.1]; exact if_pos hs
            obtain ⟨ax, hax⟩ : ∃ ax, (rqAn r7).1 = ax := ⟨_, rfl⟩
            obtain ⟨rx, hrx2⟩ : ∃ rx, (rqLine (rqAn r7).2).2 = rx := ⟨_, rfl⟩
            rw [hax, hrx2] at HD HZ
            rw [hrx2] at hlt2
            have HLT := hid hlt2
            clear hs hs2 hax hrx2 hlt2
            go_wp2_with (go_at_call 22; refine S.out.mono ?_; rintro e w3 ⟨rfl, rfl⟩)
            clear S
            have HO := hid HX.out.2.2.1
            have HO6 := HO.out.cell 2
            refine wp_region_ap Tryz.mixedOrders (fun val => { tmps := #[_, _, _, _, _, _, _, _, _, _, _, _, _, _, _, _, _, _, _, _, _, _, _, _, _, _, _, _, _, _, _, _, _, _, _, _, _, _, _, _, _, _, _, _, _, _, val 0, val 1, val 2, val 3, val 4, val 5, val 6, _, _, _, _, _, _, _, _, _, _, _, _, _, _, _, _, _, _, _, _, _, _, _, _, _, _, _, _, _, _, _, _, _, _, _, _, _, _, _, _, _, _, _, _, _, _, _, _, _, _], defers := [] }) (fun i => match i with | 0 => u46 | 1 => u47 | 2 => u48 | 3 => u49 | 4 => u50 | 5 => u51 | 6 => u52 | _ => undef) rfl o 2 (.pointer (some ⟨bx, 0, none⟩)) (.slice ta2 xs.length tc2) (fun y => match y with | .agg cs => cs | _ => #[]) 68 (fun y V => ∃ ca cc, y = .agg (encA ax (.slice ca ax.cyc.length cc)).toArray ∧ DQ bx rx V ∧ Beside bx wr V ∧ WhysS (fun b => wr.heap.size ≤ b) V (.slice ca ax.cyc.length cc) ax.cyc) (fun z V => ∃ rows2 g2 cap2, z = .slice (some ⟨g2, 0, none⟩) (xs.length + 1) cap2 ∧ OutInv 68 9 AnS BS V z (xs.length + 1) rows2 (xs ++ [ax]) ∧ DQ bx rx V ∧ NearB bx BS wr V) ?_ ?_ ?_ ?_ ?_ ?_ ?_ ?_ ?_ ?_ ?_ ?_ ?_ ?_ ?_ ?_ ?_ ?_ ?_ ?_ ?_
            · exact fun _ _ => rfl
            · exact fun _ _ => rfl
            · exact fun _ _ => rfl
            · exact fun _ _ => rfl
            · exact fun _ _ => rfl
            · exact fun _ _ => rfl
            · exact fun _ _ => rfl
            · exact fun _ _ => rfl
            · intro val W
              simp [execOp, Act.eval, go_sem]
            · intro val W
              simp [execOp, Act.eval, go_sem]
            · intro val W h2
              simp [execOp, Act.eval, go_sem, resolve, invoke, h2]
            · intro val W
              simp [execOp, Act.eval, go_sem]
            · intro val W h0 hc
              simp [execOp, Act.eval, go_sem, h0, hc]
            · intro val W h3
              obtain ⟨ca, cc, h3, hp, hb, hw⟩ := h3
              have h3' : val 3 = .agg #[.int .i64 ax.1, .int .i64 ax.2.1, .int .i64 ax.2.2.1, .int .i64 ax.2.2.2.1, .string ax.2.2.2.2.1, .int .i64 ax.2.2.2.2.2.1, .slice ca ax.cyc.length cc, .bool ax.2.2.2.2.2.2.2.1, .int .i64 ax.2.2.2.2.2.2.2.2] := h3
              simp [execOp, Act.eval, go_sem, h3']
            · intro val W h5 h6
              obtain ⟨rows2, g2, cap2, h5, ho, hp, hn⟩ := h5
              have e0 := (hn.box HO.out hoB nA).cell 2
              have e1 := (hn.box HO.out hoB nA).soft 2
              replace e0 : W.cell? ⟨o, 2, none⟩ = some (.slice ta2 xs.length tc2) := e0
              simp [execOp, Act.eval, go_sem, h5, h6, e0, e1]
            · refine HD.out.mono (fun e V h => ?_)
              obtain ⟨⟨v, rfl, ca, cc, hv, hw⟩, hdq, hb⟩ := h
              exact .inr ⟨_, rfl, ca, cc, hv, hdq, (be_drew (Beside.refl _ _)).trans hb, hw⟩
            · exact HO6
            · rintro y V ⟨ca, cc, _, _, hb, _⟩
              exact (hb.cell (p := ⟨o, 2, none⟩) HO.out.lt nA).trans HO6
            · rintro z V ⟨rows2, g2, cap2, _, _, _, hn⟩
              exact (hn.box HO.out hoB nA).cell 2
            · rintro val K y V ⟨ca, cc, rfl, hp, hb, hw⟩ h1 h4 hK
              have OUT := HX.out.2.2.2.2.1
              have hsz := HX.out.2.2.2.2.2
              have hb1 : Below V.heap.size V (V.alloc (.cells (encA ax (.slice ca ax.cyc.length cc)).toArray 68)) := below_box V _
              have hb2 : Beside bx wr (V.alloc (.cells (encA ax (.slice ca ax.cyc.length cc)).toArray 68)) := hb.trans (Beside.of_below hb1)
              have OB := OutInv.beside anS_keep OUT hb2 hxB
              refine wp_appendA BS _ _ _ rfl (.slice ta2 xs.length tc2) xs.length rows.flatten ax ca ax.cyc.length cc (show val 1 = _ from h1) V.heap.size (show val 4 = _ from h4) (heap_alloc_new V _) OB.own (Nat.le_trans hsz hb2.size) (by have := HY.out.2.2; omega) (fun g2 cap2 V5 ho hgr hat => ?_)
              have hbb : Below BS (V.alloc (.cells (encA ax (.slice ca ax.cyc.length cc)).toArray 68)) V5 := (Below.refl BS _).grown hgr (Nat.le_trans hsz hb2.size) (fun b c => (OUT.own.lt b c).1)
              refine hK _ V5 ⟨rows ++ [encA ax (.slice ca ax.cyc.length cc)], g2, cap2, rfl, OutInv.grow anS_keep OUT hsz hxB hb2 (row := encA ax (.slice ca ax.cyc.length cc)) (x := ax) ⟨_, rfl, RowsIn.keep hw (by omega) (fun _ _ h => h) (keeps_below hb1) (fun _ _ h => h)⟩ rfl ho hgr hat, (hp.keep (hb1.mono hp.lt)).keep (hbb.mono hxB), ?_⟩
              exact ⟨hbb.os.trans hb2.os, hbb.tape.trans hb2.tape, hbb.output.trans hb2.output, Nat.le_trans hb2.size hbb.size, fun b hlt hn => (hbb.block b hlt).trans (hb2.block b (Nat.lt_of_lt_of_le hlt hsz) hn)⟩
            · rintro val z V ⟨rows2, g2, cap2, rfl, ho, hp, hn⟩
              have hl2 := HLT.out
              have hl3 : (xs ++ [ax]).length = xs.length + 1 := by simp
              clear HO6
              go_wp2_with fail
              go_roundg rx.1.length
              case measure => omega
              case rel =>
                refine ⟨rx, xs ++ [ax], some ⟨g2, 0, none⟩, cap2, rows2, f, Nat.le_refl _, ⟨?_, ?_, ?_, ?_, ?_, ?_⟩, ⟨?_, ?_, ?_⟩⟩
                · exact hp.other lA _
                · exact (hn.beside HX.out.2.1 hwB).setNew mA _
                · rw [hl3]; exact (hn.box HO.out hoB nA).set (i := 2) rfl
                · exact (hn.box HX.out.2.2.2.1 hrB nR).other nRA
                · rw [hl3]; exact OutInv.beside anS_keep ho ((Beside.refl o V).setCell (p := ⟨o, 2, none⟩) rfl _) hoB
                · simpa [World.setCell] using Nat.le_trans HX.out.2.2.2.2.2 hn.size
                · exact HZ.out
                · have := HY.out.2.1; omega
                · have := HY.out.2.2; rw [hl3]; omega
          | false =>
            have hs2 : rqIs r7 1 ⟨#[97, 110, 111, 109, 97, 108, 121]⟩ = false := hs
            rw [hs2] at S
            obtain ⟨f, rfl⟩ : ∃ f0, f = f0 + 1 := ⟨f - 1, by have := HY.out.2.1; omega⟩
            rename World => wo
            have E7 : Hid (qr = rqR7 y0 (z1 == 0) xs r7) := by show _ = _; rw [EL.out, HY.out.1, show rqAns (f + 1) r7 xs = (xs, r7) from if_neg (by rw [hs]; simp)]
            have D7 := hid HX.out.1
            have B7 := hid HX.out.2.1
            have A7 := hid HX.out.2.2.1
            have R7 : Hid (BoxK BS bx o wo wo rv 25 #[.int .i64 0, .bool false, .slice none 0 0, .int .i64 0, .int .i64 0, .slice none 0 0]) := ⟨HX.out.2.2.2.1, fun _ _ _ => rfl, hxB, hoB, Nat.le_refl _⟩
            have OA : Hid (AnsS (fun b => BS ≤ b) wo (.slice ta2 xs.length tc2) xs) := OutInv.rowsR (bytes := 96) anS_keep HX.out.2.2.2.2.1 (by have := HY.out.2.2; omega)
            have WB : Hid (BS ≤ wo.heap.size) := HX.out.2.2.2.2.2
            clear HX HY hs hs2 EL hg
            go_wp2_with (go_at_call 22; refine S.out.mono ?_; rintro e w3 ⟨rfl, rfl⟩)
            clear S
            have C7 := hid (dword_is bx ⟨#[108, 101, 118, 101, 108]⟩ r7 (wo) D7.out)
            obtain ⟨⟨tk7, r8⟩, hz7⟩ : ∃ z, rqTake r7 1 wLevel = z := ⟨_, rfl⟩
            have hzb : rqTake r7 1 ⟨#[108, 101, 118, 101, 108]⟩ = (tk7, r8) := hz7
            have C7' : Hid (Calls Tryz.prog 24 #[.pointer (some ⟨bx, 0, none⟩), .string ⟨#[108, 101, 118, 101, 108]⟩] (wo) fun e w' => DT bx (wo) (fun _ => .tuple #[]) ((), r8) e w') := by have q := C7.out; unfold rqText at q; rw [hzb] at q; exact q
            clear C7 hzb
            have E8 : Hid (qr = rqR8 y0 (z1 == 0) xs r8) := by show _ = _; rw [E7.out]; unfold rqR7; rw [hz7]
            clear E7
            go_wp2_with fail
            go_at_call 24
            refine C7'.out.mono ?_
            rintro e w8 ⟨rfl, p, b⟩
            have D8 := hid p
            have b2 := b
            have B8 := hid (B7.out.trans b2)
            have R8 := hid (R7.out.beside b2 nR)
            have A8 := hid (A7.out.beside b2 nA)
            clear p b b2 hz7 D7 B7 R7 A7 C7'
            have C8 := hid (dlevel_is bx r8 (w8) D8.out)
            obtain ⟨⟨y3, r9⟩, hz8⟩ : ∃ z, rqOne levelWs 0 r8 = z := ⟨_, rfl⟩
            have hzb : rqOne levelWs 0 r8 = _ := hz8
            rw [hzb] at C8
            clear hzb
            have E9 : Hid (qr = rqR9 y0 (z1 == 0) xs y3 r9) := by show _ = _; rw [E8.out]; unfold rqR8; rw [hz8]
            clear E8
            go_wp2_with fail
            go_at_call 29
            refine C8.out.mono ?_
            rintro e w9 ⟨rfl, p, b⟩
            have D9 := hid p
            have b2 := b
            have B9 := hid (B8.out.trans b2)
            have R9 := hid (R8.out.beside b2 nR)
            have A9 := hid (A8.out.beside b2 nA)
            clear p b b2 hz8 D8 B8 R8 A8 C8
            have s_A3 := A9.out.cell 3
            have f_A3 := A9.out.soft 3
            replace s_A3 : (w9).cell? ⟨o, 3, none⟩ = some (.int .i64 0) := s_A3
            have D9n := hid (D9.out.other (g := o) (i := 3) lA (.int .i64 y3))
            have B9n := hid (B9.out.setNew (p := ⟨o, 3, none⟩) mA (.int .i64 y3))
            have R9n := hid (R9.out.other (i := 3) (u := .int .i64 y3) nRA)
            have A9n : Hid (BoxW ((w9).setCell ⟨o, 3, none⟩ (.int .i64 y3)) o 25 #[.int .i64 y0, .bool (z1 == 0), .slice ta2 xs.length tc2, .int .i64 y3, .int .i64 0, .slice none 0 0]) := A9.out.set (i := 3) (u := .int .i64 y3) rfl
            clear D9 B9 R9 A9
            have D9 := D9n
            have B9 := B9n
            have R9 := R9n
            have A9 := A9n
            clear D9n B9n R9n A9n
            have C9 := hid (dline_is bx r9 ((w9).setCell ⟨o, 3, none⟩ (.int .i64 y3)) D9.out)
            obtain ⟨⟨_, r10⟩, hz9⟩ : ∃ z, rqLine r9 = z := ⟨_, rfl⟩
            have hzb : rqLine r9 = _ := hz9
            rw [hzb] at C9
            clear hzb
            have E10 : Hid (qr = rqR10 y0 (z1 == 0) xs y3 r10) := by show _ = _; rw [E9.out]; unfold rqR9; rw [hz9]
            clear E9
            go_wp2_with fail
            go_at_call 26
            refine C9.out.mono ?_
            rintro e w10 ⟨rfl, p, b⟩
            have D10 := hid p
            have b2 := b
            have B10 := hid (B9.out.trans b2)
            have R10 := hid (R9.out.beside b2 nR)
            have A10 := hid (A9.out.beside b2 nA)
            clear p b b2 hz9 D9 B9 R9 A9 C9
            have C10 := hid (dword_is bx ⟨#[97, 110, 115, 119, 101, 114]⟩ r10 (w10) D10.out)
            obtain ⟨⟨tk10, r11⟩, hz10⟩ : ∃ z, rqTake r10 1 wAnswer = z := ⟨_, rfl⟩
            have hzb : rqTake r10 1 ⟨#[97, 110, 115, 119, 101, 114]⟩ = (tk10, r11) := hz10
            have C10' : Hid (Calls Tryz.prog 24 #[.pointer (some ⟨bx, 0, none⟩), .string ⟨#[97, 110, 115, 119, 101, 114]⟩] (w10) fun e w' => DT bx (w10) (fun _ => .tuple #[]) ((), r11) e w') := by have q := C10.out; unfold rqText at q; rw [hzb] at q; exact q
            clear C10 hzb
            have E11 : Hid (qr = rqR11 y0 (z1 == 0) xs y3 r11) := by show _ = _; rw [E10.out]; unfold rqR10; rw [hz10]
            clear E10
            go_wp2_with fail
            go_at_call 24
            refine C10'.out.mono ?_
            rintro e w11 ⟨rfl, p, b⟩
            have D11 := hid p
            have b2 := b
            have B11 := hid (B10.out.trans b2)
            have R11 := hid (R10.out.beside b2 nR)
            have A11 := hid (A10.out.beside b2 nA)
            clear p b b2 hz10 D10 B10 R10 A10 C10'
            have AW11 := hid (below_box (w11) (.cells (answerWs.map Value.string).toArray 9))
            have hsz11 : w11.heap.size = w11.heap.size := rfl
            have WW11 : Hid (WordsAt ((w11).alloc (.cells (answerWs.map Value.string).toArray 9)) w11.heap.size answerWs) := by rw [← hsz11]; exact words_is _ _
            clear hsz11
            have C11 := hid (done_is bx w11.heap.size 4 answerWs r11 _ (D11.out.later AW11.out) WW11.out (by decide))
            obtain ⟨⟨y4, r12⟩, hz11⟩ : ∃ z, rqOne answerWs 0 r11 = z := ⟨_, rfl⟩
            have hzb : rqOne answerWs 0 r11 = _ := hz11
            rw [hzb] at C11
            clear hzb
            have E12 : Hid (qr = rqR12 y0 (z1 == 0) xs y3 y4 r12) := by show _ = _; rw [E11.out]; unfold rqR11; rw [hz11]
            clear E11
            go_wp2_with fail
            go_at_call 27
            refine C11.out.mono ?_
            rintro e w12 ⟨rfl, p, b⟩
            have D12 := hid p
            have b2 := ((Beside.of_below AW11.out).trans b)
            have B12 := hid (B11.out.trans b2)
            have R12 := hid (R11.out.beside b2 nR)
            have A12 := hid (A11.out.beside b2 nA)
            clear p b b2 hz11 D11 B11 R11 A11 AW11 WW11 C11
            have s_A4 := A12.out.cell 4
            have f_A4 := A12.out.soft 4
            replace s_A4 : (w12).cell? ⟨o, 4, none⟩ = some (.int .i64 0) := s_A4
            have D12n := hid (D12.out.other (g := o) (i := 4) lA (.int .i64 y4))
            have B12n := hid (B12.out.setNew (p := ⟨o, 4, none⟩) mA (.int .i64 y4))
            have R12n := hid (R12.out.other (i := 4) (u := .int .i64 y4) nRA)
            have A12n : Hid (BoxW ((w12).setCell ⟨o, 4, none⟩ (.int .i64 y4)) o 25 #[.int .i64 y0, .bool (z1 == 0), .slice ta2 xs.length tc2, .int .i64 y3, .int .i64 y4, .slice none 0 0]) := A12.out.set (i := 4) (u := .int .i64 y4) rfl
            clear D12 B12 R12 A12
            have D12 := D12n
            have B12 := B12n
            have R12 := R12n
            have A12 := A12n
            clear D12n B12n R12n A12n
            have c4 : ((w12).setCell ⟨o, 4, none⟩ (.int .i64 y4)).cell? ⟨o, 4, none⟩ = some (.int .i64 y4) := A12.out.cell 4
            skip
            by_cases hw : y4 = 1
            · have hw4 : (y4 == 1) = true := by simpa using hw
              have EN : Hid (qr = ((y0, (z1 == 0), xs, y3, y4, (rqOrder r12).1), (rqLine (rqOrder r12).2).2)) := E12.out.trans (if_pos hw)
              clear hw E12
              have E12 := EN
              clear EN
              have C12 := hid (dtake_is bx 3 ⟨#[40]⟩ r12 ((w12).setCell ⟨o, 4, none⟩ (.int .i64 y4)) D12.out)
              obtain ⟨⟨tk12, r13⟩, hz12⟩ : ∃ z, rqTake r12 3 mOpen = z := ⟨_, rfl⟩
              have hzb : rqTake r12 3 ⟨#[40]⟩ = _ := hz12
              rw [hzb] at C12
              clear hzb
              have E13 : Hid (qr = ((y0, (z1 == 0), xs, y3, y4, (rqNumsTo (r13.1.length + 1) r13 []).1), (rqLine (rqNumsTo (r13.1.length + 1) r13 []).2).2)) := by show _ = _; rw [E12.out]; unfold rqOrder; rw [hz12]
              clear E12
              go_wp2_with fail
              go_at_call 23
              refine C12.out.mono ?_
              rintro e w13 ⟨rfl, p, b⟩
              have D13 := hid p
              have b2 := b
              have B13 := hid (B12.out.trans b2)
              have R13 := hid (R12.out.beside b2 nR)
              have A13 := hid (A12.out.beside b2 nA)
              clear p b b2 hz12 D12 B12 R12 A12 C12
              clear c4 hw4
              obtain ⟨zn, hzn⟩ : ∃ z, rqNums (r13.1.length + 1) r13 [] = z := ⟨_, rfl⟩
              have EM : Hid (qr = ((y0, (z1 == 0), xs, y3, y4, zn.1), (rqLine (rqTake zn.2 3 mClose).2).2)) := by show _ = _; rw [E13.out]; unfold rqNumsTo; rw [hzn]
              have EY : Hid (zn = rqNums (r13.1.length + 1) r13 []) := hzn.symm
              clear hzn E13
              obtain ⟨BS2, hBS2⟩ : ∃ BS2, w13.heap.size = BS2 := ⟨_, rfl⟩
              have hoB2 : o < BS2 := by rw [← hBS2]; exact A13.out.lt
              have hrB2 : rv < BS2 := by rw [← hBS2]; exact R13.out.box.lt
              have hxB2 : bx < BS2 := by rw [← hBS2]; exact D13.out.lt
              have hwB2 : w0.heap.size ≤ BS2 := by rw [← hBS2]; exact B13.out.size
              have hsB2 : wo.heap.size ≤ BS2 := by rw [← hBS2]; exact R13.out.sz
              have hBB : BS ≤ BS2 := Nat.le_trans WB.out hsB2
              have SZ : Hid (BS2 ≤ w13.heap.size) := by rw [← hBS2]; exact Nat.le_refl _
              have FW : Hid (r13.1.length ≤ 20000) := D13.out.few
              clear hBS2
              go_wp2_with fail
              go_loopg [] r13.1.length (fun gm wr => ∃ (r : Qr) (xs1 : List Int) (tb : Option Addr) (tcb : Nat) (rows1 : List (List Value)) (f1 : Nat), r.1.length ≤ gm ∧ Aside (DQ bx r wr ∧ Beside bx w0 wr ∧ BoxW wr o 25 #[.int .i64 y0, .bool (z1 == 0), .slice ta2 xs.length tc2, .int .i64 y3, .int .i64 y4, .slice tb xs1.length tcb] ∧ BoxK BS bx o wo wr rv 25 #[.int .i64 0, .bool false, .slice none 0 0, .int .i64 0, .int .i64 0, .slice none 0 0] ∧ OutInv 3 1 RI BS2 wr (.slice tb xs1.length tcb) xs1.length rows1 xs1 ∧ BS2 ≤ wr.heap.size) ∧ Aside (zn = rqNums f1 r xs1 ∧ r.1.length < f1 ∧ xs1.length + r.1.length ≤ 20000))
              case atStart => exact ⟨r13, [], none, 0, [], r13.1.length + 1, Nat.le_refl _, ⟨D13.out, B13.out, A13.out, R13.out, OutInv.nil _ _ _ _ _, SZ.out⟩, ⟨EY.out, by omega, by simpa using FW.out⟩⟩
              case round =>
                clear D13 B13 A13 R13 SZ FW EY
                obtain ⟨r14, xs1, tb, tcb, rows1, f1, hg, HX, HY⟩ := hrel
                have S := hid (dis_is bx 2 ⟨#[]⟩ r14 wr HX.out.1)
                cases hs : rqIs r14 2 ⟨#[]⟩ with
                | true =>
                  rw [hs] at S
                  obtain ⟨f1, rfl⟩ : ∃ f0, f1 = f0 + 1 := ⟨f1 - 1, by have := HY.out.2.1; omega⟩
                  have HD := hid (dnum_is bx r14 wr.drew (HX.out.1.keep (below_drew1 (Below.refl _ _))))
                  have hlt2 : (rqNum r14).2.1.length < r14.1.length := rqTake_lt hs
                  have HZ : Hid (zn = rqNums f1 (rqNum r14).2 (xs1 ++ [(rqNum r14).1])) := by show _ = _; rw [HY.out.1]; exact if_pos hs
                  obtain ⟨⟨nx, rx⟩, hnx⟩ : ∃ z, rqNum r14 = z := ⟨_, rfl⟩
                  rw [hnx] at HD HZ hlt2
                  have HLT := hid hlt2
                  clear hs hnx hlt2
                  go_wp2_with (go_at_call 22; refine S.out.mono ?_; rintro e w3 ⟨rfl, rfl⟩)
                  clear S
                  have HO := hid HX.out.2.2.1
                  have HO6 := HO.out.cell 5
                  refine wp_region_ap Tryz.mixedOrders (fun val => { tmps := #[_, _, _, _, _, _, _, _, _, _, _, _, _, _, _, _, _, _, _, _, _, _, _, _, _, _, _, _, _, _, _, _, _, _, _, _, _, _, _, _, _, _, _, _, _, _, _, _, _, _, _, _, _, _, _, _, _, _, _, _, _, _, _, _, _, _, _, _, _, _, _, _, _, val 0, val 1, val 2, val 3, val 4, val 5, val 6, _, _, _, _, _, _, _, _, _, _, _, _, _, _, _, _, _, _, _, _, _, _, _], defers := [] }) (fun i => match i with | 0 => u73 | 1 => u74 | 2 => u75 | 3 => u76 | 4 => u77 | 5 => u78 | 6 => u79 | _ => undef) rfl o 5 (.pointer (some ⟨bx, 0, none⟩)) (.slice tb xs1.length tcb) (fun y => #[y]) 3 (fun y V => y = .int .i64 nx ∧ DQ bx rx V ∧ Beside bx wr V) (fun z V => ∃ rows2 g2 cap2, z = .slice (some ⟨g2, 0, none⟩) (xs1.length + 1) cap2 ∧ OutInv 3 1 RI BS2 V z (xs1.length + 1) rows2 (xs1 ++ [nx]) ∧ DQ bx rx V ∧ NearB bx BS2 wr V) ?_ ?_ ?_ ?_ ?_ ?_ ?_ ?_ ?_ ?_ ?_ ?_ ?_ ?_ ?_ ?_ ?_ ?_ ?_ ?_ ?_
                  · exact fun _ _ => rfl
                  · exact fun _ _ => rfl
                  · exact fun _ _ => rfl
                  · exact fun _ _ => rfl
                  · exact fun _ _ => rfl
                  · exact fun _ _ => rfl
                  · exact fun _ _ => rfl
                  · exact fun _ _ => rfl
                  · intro val W
                    simp [execOp, Act.eval, go_sem]
                  · intro val W
                    simp [execOp, Act.eval, go_sem]
                  · intro val W h2
                    simp [execOp, Act.eval, go_sem, resolve, invoke, h2]
                  · intro val W
                    simp [execOp, Act.eval, go_sem]
                  · intro val W h0 hc
                    simp [execOp, Act.eval, go_sem, h0, hc]
                  · intro val W h3
                    obtain ⟨h3, hp, hb⟩ := h3
                    simp [execOp, Act.eval, go_sem, h3]
                  · intro val W h5 h6
                    obtain ⟨rows2, g2, cap2, h5, ho, hp, hn⟩ := h5
                    have e0 := (hn.box HO.out hoB2 nA).cell 5
                    have e1 := (hn.box HO.out hoB2 nA).soft 5
                    replace e0 : W.cell? ⟨o, 5, none⟩ = some (.slice tb xs1.length tcb) := e0
                    simp [execOp, Act.eval, go_sem, h5, h6, e0, e1]
                  · refine HD.out.mono (fun e V h => ?_)
                    obtain ⟨he, hdq, hb⟩ := h
                    exact .inr ⟨_, he, rfl, hdq, (be_drew (Beside.refl _ _)).trans hb⟩
                  · exact HO6
                  · rintro y V ⟨_, _, hb⟩
                    exact (hb.cell (p := ⟨o, 5, none⟩) HO.out.lt nA).trans HO6
                  · rintro z V ⟨rows2, g2, cap2, _, _, _, hn⟩
                    exact (hn.box HO.out hoB2 nA).cell 5
                  · rintro val K y V ⟨rfl, hp, hb⟩ h1 h4 hK
                    have OUT := HX.out.2.2.2.2.1
                    have hsz := HX.out.2.2.2.2.2
                    have hb1 : Below V.heap.size V (V.alloc (.cells #[.int .i64 nx] 3)) := below_box V _
                    have hb2 : Beside bx wr (V.alloc (.cells #[.int .i64 nx] 3)) := hb.trans (Beside.of_below hb1)
                    have OB := OutInv.beside ri_keep OUT hb2 hxB2
                    refine wp_appendI BS2 _ _ _ rfl (.slice tb xs1.length tcb) xs1.length rows1.flatten nx (show val 1 = _ from h1) V.heap.size (show val 4 = _ from h4) (heap_alloc_new V _) OB.own (Nat.le_trans hsz hb2.size) (by have := HY.out.2.2; omega) (fun g2 cap2 V5 ho hgr hat => ?_)
                    have hbb : Below BS2 (V.alloc (.cells #[.int .i64 nx] 3)) V5 := (Below.refl BS2 _).grown hgr (Nat.le_trans hsz hb2.size) (fun b c => (OUT.own.lt b c).1)
                    refine hK _ V5 ⟨rows1 ++ [[.int .i64 nx]], g2, cap2, rfl, OutInv.grow ri_keep OUT hsz hxB2 hb2 (row := [.int .i64 nx]) (x := nx) rfl rfl ho hgr hat, (hp.keep (hb1.mono hp.lt)).keep (hbb.mono hxB2), ?_⟩
                    exact ⟨hbb.os.trans hb2.os, hbb.tape.trans hb2.tape, hbb.output.trans hb2.output, Nat.le_trans hb2.size hbb.size, fun b hlt hn => (hbb.block b hlt).trans (hb2.block b (Nat.lt_of_lt_of_le hlt hsz) hn)⟩
                  · rintro val z V ⟨rows2, g2, cap2, rfl, ho, hp, hn⟩
                    have hl2 : rx.1.length < r14.1.length := HLT.out
                    have hl3 : (xs1 ++ [nx]).length = xs1.length + 1 := by simp
                    clear HO6
                    go_wp2_with fail
                    go_roundg rx.1.length
                    case measure => omega
                    case rel =>
                      refine ⟨rx, xs1 ++ [nx], some ⟨g2, 0, none⟩, cap2, rows2, f1, Nat.le_refl _, ⟨?_, ?_, ?_, ?_, ?_, ?_⟩, ⟨?_, ?_, ?_⟩⟩
                      · exact hp.other lA _
                      · exact (hn.beside HX.out.2.1 hwB2).setNew mA _
                      · rw [hl3]; exact (hn.box HO.out hoB2 nA).set (i := 5) rfl
                      · exact (HX.out.2.2.2.1.near hn hrB2 hsB2 nR).other nRA
                      · rw [hl3]; exact OutInv.beside ri_keep ho ((Beside.refl o V).setCell (p := ⟨o, 5, none⟩) rfl _) hoB2
                      · simpa [World.setCell] using Nat.le_trans HX.out.2.2.2.2.2 hn.size
                      · exact HZ.out
                      · have := HY.out.2.1; omega
                      · have := HY.out.2.2; rw [hl3]; omega
                | false =>
                  rw [hs] at S
                  obtain ⟨f1, rfl⟩ : ∃ f0, f1 = f0 + 1 := ⟨f1 - 1, by have := HY.out.2.1; omega⟩
                  have E14 : Hid (qr = ((y0, (z1 == 0), xs, y3, y4, xs1), (rqLine (rqTake r14 3 mClose).2).2)) := by show _ = _; rw [EM.out, HY.out.1, show rqNums (f1 + 1) r14 xs1 = (xs1, r14) from if_neg (by rw [hs]; simp)]
                  have D14 := hid HX.out.1
                  have B14 := hid HX.out.2.1
                  have A14 := hid HX.out.2.2.1
                  have R14 := hid HX.out.2.2.2.1
                  have K14 : Hid (BoxK BS2 bx o wr wr rv 25 #[.int .i64 0, .bool false, .slice none 0 0, .int .i64 0, .int .i64 0, .slice none 0 0]) := ⟨HX.out.2.2.2.1.box, fun _ _ _ => rfl, hxB2, hoB2, Nat.le_refl _⟩
                  have nK := nR
                  have IO0 : Hid (IntsIn (fun b => BS2 ≤ b) wr (.slice tb xs1.length tcb) xs1) := ints_of_out HX.out.2.2.2.2.1 (by have := HY.out.2.2; omega)
                  clear HX HY hs EM hg
                  go_wp2_with (go_at_call 22; refine S.out.mono ?_; rintro e w3 ⟨rfl, rfl⟩)
                  clear S
                  have C14 := hid (dtake_is bx 3 ⟨#[41]⟩ r14 (wr) D14.out)
                  obtain ⟨⟨tk14, r15⟩, hz14⟩ : ∃ z, rqTake r14 3 mClose = z := ⟨_, rfl⟩
                  have hzb : rqTake r14 3 ⟨#[41]⟩ = _ := hz14
                  rw [hzb] at C14
                  clear hzb
                  have E15 : Hid (qr = ((y0, (z1 == 0), xs, y3, y4, xs1), (rqLine r15).2)) := by show _ = _; rw [E14.out, hz14]
                  clear E14
                  go_wp2_with fail
                  go_at_call 23
                  refine C14.out.mono ?_
                  rintro e w15 ⟨rfl, p, b⟩
                  have D15 := hid p
                  have b2 := b
                  have B15 := hid (B14.out.trans b2)
                  have R15 := hid (R14.out.beside b2 nR)
                  have A15 := hid (A14.out.beside b2 nA)
                  have K15 := hid (K14.out.beside b2 nK)
                  clear p b b2 hz14 D14 B14 R14 A14 K14 C14
                  have C15 := hid (dline_is bx r15 (w15) D15.out)
                  obtain ⟨⟨_, r16⟩, hz15⟩ : ∃ z, rqLine r15 = z := ⟨_, rfl⟩
                  have hzb : rqLine r15 = _ := hz15
                  rw [hzb] at C15
                  clear hzb
                  have E16 : Hid (qr = ((y0, (z1 == 0), xs, y3, y4, xs1), r16)) := by show _ = _; rw [E15.out, hz15]
                  clear E15
                  go_wp2_with fail
                  go_at_call 26
                  refine C15.out.mono ?_
                  rintro e w16 ⟨rfl, p, b⟩
                  have D16 := hid p
                  have b2 := b
                  have B16 := hid (B15.out.trans b2)
                  have R16 := hid (R15.out.beside b2 nR)
                  have A16 := hid (A15.out.beside b2 nA)
                  have K16 := hid (K15.out.beside b2 nK)
                  clear p b b2 hz15 D15 B15 R15 A15 K15 C15
                  have OI : Hid (IntsIn (fun b => BS ≤ b) w16 (.slice tb xs1.length tcb) xs1) := IO0.out.keep (fun c hc hl => K16.out.keep c hc hl) (fun c _ hc => Nat.le_trans hBB hc)
                  clear IO0
                  obtain ⟨ll, bb⟩ := r16
                  have SIM := hid (sim_parse HSC.out (x := (y0, (z1 == 0), xs, y3, y4, xs1)) (l := ll) (b := bb) (by rw [HQ.out, E16.out]))
                  have RL := R16.out
                  have cb := D16.out.bad
                  obtain ⟨vv, cl, ao, cc, rfl, hcc, hjj⟩ := D16.out.left
                  clear hcc hjj
                  have q0 : w16.cell? ⟨rv, 0, none⟩ = some (.int .i64 0) := RL.cell 0
                  have f0 := RL.soft 0
                  have q1 : w16.cell? ⟨rv, 1, none⟩ = some (.bool false) := RL.cell 1
                  have f1 := RL.soft 1
                  have q2 : w16.cell? ⟨rv, 2, none⟩ = some (.slice none 0 0) := RL.cell 2
                  have f2 := RL.soft 2
                  have q3 : w16.cell? ⟨rv, 3, none⟩ = some (.int .i64 0) := RL.cell 3
                  have f3 := RL.soft 3
                  have q4 : w16.cell? ⟨rv, 4, none⟩ = some (.int .i64 0) := RL.cell 4
                  have f4 := RL.soft 4
                  have q5 : w16.cell? ⟨rv, 5, none⟩ = some (.slice none 0 0) := RL.cell 5
                  have f5 := RL.soft 5
                  have BWL : Hid (Below w.heap.size w w16) := BW0.out.trans (B16.out.below hwbx (Nat.le_of_lt (Nat.lt_of_le_of_lt hwbx hbx0.out)))
                  cases bb with
                  | true =>
                    have HT : Hid (parseQ s = .error (0, 210)) := SIM.out.1 (.inl rfl)
                    have cb' : w16.cell? ⟨bx, 1, none⟩ = some (.bool true) := cb
                    clear cb SIM
                    go_wp2_with fail
                    refine bodyPost_ret (v := .tuple #[.agg zRep, .int .i64 0, .int .i64 210]) (by simp [results, Tryz.results8, go_sem, q0, q1, q2, q3, q4, q5]) rfl ⟨by rw [HT.out]; rfl, ?_⟩
                    exact below_put6 BWL.out hrw
                  | false =>
                    have cb' : w16.cell? ⟨bx, 1, none⟩ = some (.bool false) := cb
                    clear cb
                    cases ll with
                    | cons tk tl =>
                      have HT : Hid (parseQ s = .error (0, 210)) := SIM.out.1 (.inr (by simp))
                      have cl' : w16.cell? ⟨bx, 0, none⟩ = some (.slice ao (tl.length + 1) cc) := cl
                      have hpos : (0 : Int) < (tl.length : Int) + 1 := by omega
                      clear cl SIM
                      go_wp2_with fail
                      refine bodyPost_ret (v := .tuple #[.agg zRep, .int .i64 0, .int .i64 210]) (by simp [results, Tryz.results8, go_sem, q0, q1, q2, q3, q4, q5]) rfl ⟨by rw [HT.out]; rfl, ?_⟩
                      exact below_put6 BWL.out hrw
                    | nil =>
                      have cl' : w16.cell? ⟨bx, 0, none⟩ = some (.slice ao 0 cc) := cl
                      have hz : ¬ (0 : Int) < ((0 : Nat) : Int) := by omega
                      obtain ⟨l2, hq2⟩ := SIM.out.2 rfl rfl
                      have FIT := hid (rep_cnt T _ _ hq2)
                      have SMR := hid (rep_sm (scanM_sm HSC.out) hq2)
                      have HQ2 := hid hq2
                      have OL : Hid (AnsS (fun b => BS ≤ b) w16 (.slice ta2 xs.length tc2) xs) := OA.out.keep (fun c hc hl => RL.keep c hc hl) (fun _ _ h => h)
                      have CC := hid (dcan_is y0 (z1 == 0) ta2 xs tc2 y3 y4 tb xs1 tcb w16 OL.out SMR.out)
                      have c0 : w16.cell? ⟨o, 0, none⟩ = some (.int .i64 y0) := A16.out.cell 0
                      have c1 : w16.cell? ⟨o, 1, none⟩ = some (.bool (z1 == 0)) := A16.out.cell 1
                      have c2 : w16.cell? ⟨o, 2, none⟩ = some (.slice ta2 xs.length tc2) := A16.out.cell 2
                      have c3 : w16.cell? ⟨o, 3, none⟩ = some (.int .i64 y3) := A16.out.cell 3
                      have c4 : w16.cell? ⟨o, 4, none⟩ = some (.int .i64 y4) := A16.out.cell 4
                      have c5 : w16.cell? ⟨o, 5, none⟩ = some (.slice tb xs1.length tcb) := A16.out.cell 5
                      have AL := hid A16.out
                      have RLH := hid RL
                      clear cl SIM hq2 RL
                      go_wp2_with fail
                      go_at_call 30
                      refine CC.out.mono ?_
                      rintro e w5 ⟨rfl, b5⟩
                      clear c0 c1 c2 c3 c4 c5 q0 q1 q2 q3 q4 q5 f0 f1 f2 f3 f4 f5 cb' cl' CC
                      have R5 := RLH.out.later b5
                      have A5 := AL.out.later b5
                      have BW5 : Hid (Below w.heap.size w w5) := BWL.out.trans (b5.mono BWL.out.size)
                      have O5 : Hid (AnsS (fun b => BS ≤ b) w5 (.slice ta2 xs.length tc2) xs) := OL.out.keep (keeps_below b5) (fun _ _ h => h)
                      have I5 : Hid (IntsIn (fun b => BS ≤ b) w5 (.slice tb xs1.length tcb) xs1) := OI.out.keep (keeps_below b5) (fun _ _ h => h)
                      clear b5
                      have q0 : w5.cell? ⟨rv, 0, none⟩ = some (.int .i64 0) := R5.cell 0
                      have f0 := R5.soft 0
                      have c0 : w5.cell? ⟨o, 0, none⟩ = some (.int .i64 y0) := A5.cell 0
                      have q1 : w5.cell? ⟨rv, 1, none⟩ = some (.bool false) := R5.cell 1
                      have f1 := R5.soft 1
                      have c1 : w5.cell? ⟨o, 1, none⟩ = some (.bool (z1 == 0)) := A5.cell 1
                      have q2 : w5.cell? ⟨rv, 2, none⟩ = some (.slice none 0 0) := R5.cell 2
                      have f2 := R5.soft 2
                      have c2 : w5.cell? ⟨o, 2, none⟩ = some (.slice ta2 xs.length tc2) := A5.cell 2
                      have q3 : w5.cell? ⟨rv, 3, none⟩ = some (.int .i64 0) := R5.cell 3
                      have f3 := R5.soft 3
                      have c3 : w5.cell? ⟨o, 3, none⟩ = some (.int .i64 y3) := A5.cell 3
                      have q4 : w5.cell? ⟨rv, 4, none⟩ = some (.int .i64 0) := R5.cell 4
                      have f4 := R5.soft 4
                      have c4 : w5.cell? ⟨o, 4, none⟩ = some (.int .i64 y4) := A5.cell 4
                      have q5 : w5.cell? ⟨rv, 5, none⟩ = some (.slice none 0 0) := R5.cell 5
                      have f5 := R5.soft 5
                      have c5 : w5.cell? ⟨o, 5, none⟩ = some (.slice tb xs1.length tcb) := A5.cell 5
                      have RH := hid R5.box
                      clear R5 A5
                      cases hcan : canR (y0, (z1 == 0), xs, y3, y4, xs1) with
                      | false =>
                        have HT : Hid (parseQ s = .error (0, 210)) := parseQ_no HSC.out HQ2.out hcan
                        clear hcan
                        go_wp2_with fail
                        refine bodyPost_ret (v := .tuple #[.agg zRep, .int .i64 0, .int .i64 210]) (by simp [results, Tryz.results8, go_sem, q0, q1, q2, q3, q4, q5]) rfl ⟨by rw [HT.out]; rfl, ?_⟩
                        exact below_put6 BW5.out hrw
                      | true =>
                        have HT : Hid (parseQ s = .ok (y0, (z1 == 0), xs, y3, y4, xs1)) := parseQ_yes HSC.out HQ2.out hcan
                        clear hcan
                        go_wp2_with fail
                        have XF : BoxW ((((((w5.setCell ⟨rv, 0, none⟩ (.int .i64 y0)).setCell ⟨rv, 1, none⟩ (.bool (z1 == 0))).setCell ⟨rv, 2, none⟩ (.slice ta2 xs.length tc2)).setCell ⟨rv, 3, none⟩ (.int .i64 y3)).setCell ⟨rv, 4, none⟩ (.int .i64 y4)).setCell ⟨rv, 5, none⟩ (.slice tb xs1.length tcb)) rv 25 #[.int .i64 y0, .bool (z1 == 0), .slice ta2 xs.length tc2, .int .i64 y3, .int .i64 y4, .slice tb xs1.length tcb] := box_put6 RH.out
                        obtain ⟨j0, j1, j2, j3, j4, j5⟩ := XF.cells
                        refine bodyPost_ret (v := .tuple #[.agg #[.int .i64 y0, .bool (z1 == 0), .slice ta2 xs.length tc2, .int .i64 y3, .int .i64 y4, .slice tb xs1.length tcb], .int .i64 0, .int .i64 0]) (by simp [results, Tryz.results8, go_sem, j0, j1, j2, j3, j4, j5]) rfl ⟨?_, below_put6 BW5.out hrw⟩
                        rw [HT.out]
                        refine ⟨_, rfl, ta2, tc2, tb, tcb, rfl, O5.out.keep ?_ (fun c _ hc => ?_), I5.out.keep ?_ (fun c _ hc => ?_)⟩
                        · repeat (refine keeps_set ?_ (fun c hc e => by have : BS ≤ c := hc; omega))
                          exact fun _ _ _ => rfl
                        · have hc2 : BS ≤ c := hc
                          show w.heap.size ≤ c
                          omega
                        · repeat (refine keeps_set ?_ (fun c hc e => by have : BS ≤ c := hc; omega))
                          exact fun _ _ _ => rfl
                        · have hc2 : BS ≤ c := hc
                          show w.heap.size ≤ c
                          omega
            have hw4 : (y4 == 1) = false := by simpa using hw
            have EN : Hid (qr = ((y0, (z1 == 0), xs, y3, y4, []), (rqLine r12).2)) := E12.out.trans (if_neg hw)
            clear hw E12
            have E12 := EN
            clear EN
            have C12 := hid (dline_is bx r12 ((w12).setCell ⟨o, 4, none⟩ (.int .i64 y4)) D12.out)
            obtain ⟨⟨_, r13⟩, hz12⟩ : ∃ z, rqLine r12 = z := ⟨_, rfl⟩
            have hzb : rqLine r12 = _ := hz12
            rw [hzb] at C12
            clear hzb
            have E13 : Hid (qr = ((y0, (z1 == 0), xs, y3, y4, []), r13)) := by show _ = _; rw [E12.out, hz12]
            clear E12
            go_wp2_with fail
            go_at_call 26
            refine C12.out.mono ?_
            rintro e w13 ⟨rfl, p, b⟩
            have D13 := hid p
            have b2 := b
            have B13 := hid (B12.out.trans b2)
            have R13 := hid (R12.out.beside b2 nR)
            have A13 := hid (A12.out.beside b2 nA)
            clear p b b2 hz12 D12 B12 R12 A12 C12
            clear hw4
            have OI : Hid (IntsIn (fun b => BS ≤ b) w13 (.slice none 0 ([] : List Int).length) []) := ⟨none, 0, rfl, by simp, fun h => by simp at h⟩
            obtain ⟨ll, bb⟩ := r13
            have SIM := hid (sim_parse HSC.out (x := (y0, (z1 == 0), xs, y3, y4, ([] : List Int))) (l := ll) (b := bb) (by rw [HQ.out, E13.out]))
            have RL := R13.out
            have cb := D13.out.bad
            obtain ⟨vv, cl, ao, cc, rfl, hcc, hjj⟩ := D13.out.left
            clear hcc hjj
            have q0 : w13.cell? ⟨rv, 0, none⟩ = some (.int .i64 0) := RL.cell 0
            have f0 := RL.soft 0
            have q1 : w13.cell? ⟨rv, 1, none⟩ = some (.bool false) := RL.cell 1
            have f1 := RL.soft 1
            have q2 : w13.cell? ⟨rv, 2, none⟩ = some (.slice none 0 0) := RL.cell 2
            have f2 := RL.soft 2
            have q3 : w13.cell? ⟨rv, 3, none⟩ = some (.int .i64 0) := RL.cell 3
            have f3 := RL.soft 3
            have q4 : w13.cell? ⟨rv, 4, none⟩ = some (.int .i64 0) := RL.cell 4
            have f4 := RL.soft 4
            have q5 : w13.cell? ⟨rv, 5, none⟩ = some (.slice none 0 0) := RL.cell 5
            have f5 := RL.soft 5
            have BWL : Hid (Below w.heap.size w w13) := BW0.out.trans (B13.out.below hwbx (Nat.le_of_lt (Nat.lt_of_le_of_lt hwbx hbx0.out)))
            cases bb with
            | true =>
              have HT : Hid (parseQ s = .error (0, 210)) := SIM.out.1 (.inl rfl)
              have cb' : w13.cell? ⟨bx, 1, none⟩ = some (.bool true) := cb
              clear cb SIM
              go_wp2_with fail
              refine bodyPost_ret (v := .tuple #[.agg zRep, .int .i64 0, .int .i64 210]) (by simp [results, Tryz.results8, go_sem, q0, q1, q2, q3, q4, q5]) rfl ⟨by rw [HT.out]; rfl, ?_⟩
              exact below_put6 BWL.out hrw
            | false =>
              have cb' : w13.cell? ⟨bx, 1, none⟩ = some (.bool false) := cb
              clear cb
              cases ll with
              | cons tk tl =>
                have HT : Hid (parseQ s = .error (0, 210)) := SIM.out.1 (.inr (by simp))
                have cl' : w13.cell? ⟨bx, 0, none⟩ = some (.slice ao (tl.length + 1) cc) := cl
                have hpos : (0 : Int) < (tl.length : Int) + 1 := by omega
                clear cl SIM
                go_wp2_with fail
                refine bodyPost_ret (v := .tuple #[.agg zRep, .int .i64 0, .int .i64 210]) (by simp [results, Tryz.results8, go_sem, q0, q1, q2, q3, q4, q5]) rfl ⟨by rw [HT.out]; rfl, ?_⟩
                exact below_put6 BWL.out hrw
              | nil =>
                have cl' : w13.cell? ⟨bx, 0, none⟩ = some (.slice ao 0 cc) := cl
                have hz : ¬ (0 : Int) < ((0 : Nat) : Int) := by omega
                obtain ⟨l2, hq2⟩ := SIM.out.2 rfl rfl
                have FIT := hid (rep_cnt T _ _ hq2)
                have SMR := hid (rep_sm (scanM_sm HSC.out) hq2)
                have HQ2 := hid hq2
                have OL : Hid (AnsS (fun b => BS ≤ b) w13 (.slice ta2 xs.length tc2) xs) := OA.out.keep (fun c hc hl => RL.keep c hc hl) (fun _ _ h => h)
                have CC := hid (dcan_is y0 (z1 == 0) ta2 xs tc2 y3 y4 none ([] : List Int) 0 w13 OL.out SMR.out)
                have c0 : w13.cell? ⟨o, 0, none⟩ = some (.int .i64 y0) := A13.out.cell 0
                have c1 : w13.cell? ⟨o, 1, none⟩ = some (.bool (z1 == 0)) := A13.out.cell 1
                have c2 : w13.cell? ⟨o, 2, none⟩ = some (.slice ta2 xs.length tc2) := A13.out.cell 2
                have c3 : w13.cell? ⟨o, 3, none⟩ = some (.int .i64 y3) := A13.out.cell 3
                have c4 : w13.cell? ⟨o, 4, none⟩ = some (.int .i64 y4) := A13.out.cell 4
                have c5 : w13.cell? ⟨o, 5, none⟩ = some (.slice none 0 0) := A13.out.cell 5
                have AL := hid A13.out
                have RLH := hid RL
                clear cl SIM hq2 RL
                go_wp2_with fail
                go_at_call 30
                refine CC.out.mono ?_
                rintro e w5 ⟨rfl, b5⟩
                clear c0 c1 c2 c3 c4 c5 q0 q1 q2 q3 q4 q5 f0 f1 f2 f3 f4 f5 cb' cl' CC
                have R5 := RLH.out.later b5
                have A5 := AL.out.later b5
                have BW5 : Hid (Below w.heap.size w w5) := BWL.out.trans (b5.mono BWL.out.size)
                have O5 : Hid (AnsS (fun b => BS ≤ b) w5 (.slice ta2 xs.length tc2) xs) := OL.out.keep (keeps_below b5) (fun _ _ h => h)
                have I5 : Hid (IntsIn (fun b => BS ≤ b) w5 (.slice none 0 0) ([] : List Int)) := OI.out.keep (keeps_below b5) (fun _ _ h => h)
                clear b5
                have q0 : w5.cell? ⟨rv, 0, none⟩ = some (.int .i64 0) := R5.cell 0
                have f0 := R5.soft 0
                have c0 : w5.cell? ⟨o, 0, none⟩ = some (.int .i64 y0) := A5.cell 0
                have q1 : w5.cell? ⟨rv, 1, none⟩ = some (.bool false) := R5.cell 1
                have f1 := R5.soft 1
                have c1 : w5.cell? ⟨o, 1, none⟩ = some (.bool (z1 == 0)) := A5.cell 1
                have q2 : w5.cell? ⟨rv, 2, none⟩ = some (.slice none 0 0) := R5.cell 2
                have f2 := R5.soft 2
                have c2 : w5.cell? ⟨o, 2, none⟩ = some (.slice ta2 xs.length tc2) := A5.cell 2
                have q3 : w5.cell? ⟨rv, 3, none⟩ = some (.int .i64 0) := R5.cell 3
                have f3 := R5.soft 3
                have c3 : w5.cell? ⟨o, 3, none⟩ = some (.int .i64 y3) := A5.cell 3
                have q4 : w5.cell? ⟨rv, 4, none⟩ = some (.int .i64 0) := R5.cell 4
                have f4 := R5.soft 4
                have c4 : w5.cell? ⟨o, 4, none⟩ = some (.int .i64 y4) := A5.cell 4
                have q5 : w5.cell? ⟨rv, 5, none⟩ = some (.slice none 0 0) := R5.cell 5
                have f5 := R5.soft 5
                have c5 : w5.cell? ⟨o, 5, none⟩ = some (.slice none 0 0) := A5.cell 5
                have RH := hid R5.box
                clear R5 A5
                cases hcan : canR (y0, (z1 == 0), xs, y3, y4, ([] : List Int)) with
                | false =>
                  have HT : Hid (parseQ s = .error (0, 210)) := parseQ_no HSC.out HQ2.out hcan
                  clear hcan
                  go_wp2_with fail
                  refine bodyPost_ret (v := .tuple #[.agg zRep, .int .i64 0, .int .i64 210]) (by simp [results, Tryz.results8, go_sem, q0, q1, q2, q3, q4, q5]) rfl ⟨by rw [HT.out]; rfl, ?_⟩
                  exact below_put6 BW5.out hrw
                | true =>
                  have HT : Hid (parseQ s = .ok (y0, (z1 == 0), xs, y3, y4, ([] : List Int))) := parseQ_yes HSC.out HQ2.out hcan
                  clear hcan
                  go_wp2_with fail
                  have XF : BoxW ((((((w5.setCell ⟨rv, 0, none⟩ (.int .i64 y0)).setCell ⟨rv, 1, none⟩ (.bool (z1 == 0))).setCell ⟨rv, 2, none⟩ (.slice ta2 xs.length tc2)).setCell ⟨rv, 3, none⟩ (.int .i64 y3)).setCell ⟨rv, 4, none⟩ (.int .i64 y4)).setCell ⟨rv, 5, none⟩ (.slice none 0 0)) rv 25 #[.int .i64 y0, .bool (z1 == 0), .slice ta2 xs.length tc2, .int .i64 y3, .int .i64 y4, .slice none 0 0] := box_put6 RH.out
                  obtain ⟨j0, j1, j2, j3, j4, j5⟩ := XF.cells
                  refine bodyPost_ret (v := .tuple #[.agg #[.int .i64 y0, .bool (z1 == 0), .slice ta2 xs.length tc2, .int .i64 y3, .int .i64 y4, .slice none 0 0], .int .i64 0, .int .i64 0]) (by simp [results, Tryz.results8, go_sem, j0, j1, j2, j3, j4, j5]) rfl ⟨?_, below_put6 BW5.out hrw⟩
                  rw [HT.out]
                  refine ⟨_, rfl, ta2, tc2, none, 0, rfl, O5.out.keep ?_ (fun c _ hc => ?_), I5.out.keep ?_ (fun c _ hc => ?_)⟩
                  · repeat (refine keeps_set ?_ (fun c hc e => by have : BS ≤ c := hc; omega))
                    exact fun _ _ _ => rfl
                  · have hc2 : BS ≤ c := hc
                    show w.heap.size ≤ c
                    omega
                  · repeat (refine keeps_set ?_ (fun c hc e => by have : BS ≤ c := hc; omega))
                    exact fun _ _ _ => rfl
                  · have hc2 : BS ≤ c := hc
                    show w.heap.size ≤ c
                    omega
end Go.Proofs.YtkpomcimaofkkaaGreatDoor.Rp
