/-
  Copy of a state.
-/
import Derived.Test.YtjeheknhpfkaiaaDoorN1
namespace Go.Proofs.YtjeheknhpfkaiaaDoor
set_option linter.unusedVariables false
set_option linter.unusedSimpArgs false
open Go.RowKit Go.Lib Go.Maps

/-- The lists that are there already. -/
def LP (L : ByteArray → List Int) (left : ByteArray → Bool) (s : ByteArray) : List Int := if s.size ≤ maxLen ∧ left s = false then L s else []
theorem LP_next (L : ByteArray → List Int) (left : ByteArray → Bool) (s : ByteArray) (hs : s.size ≤ maxLen) : upd (LP L left) s (L s) = LP L (fun z => left z && !decide (z = s)) := by
  funext z
  unfold upd LP
  by_cases e : z = s
  · subst e
    rw [if_pos rfl, if_pos ⟨hs, by simp⟩]
  · rw [if_neg e]
    simp [e]
set_option maxHeartbeats 4000000 in
set_option maxRecDepth 100000 in
theorem copy_is (B : Nat) (w : World) (sb lb rb : Nat) (F : Nat → Prop) (n : Nat) (L : List MOp) (h : St B w sb lb rb F n L) (hn : n < maxLen) (hl : ∀ s, (lstM L s).length * 8 ≤ 140737488355328) (hks : ∀ o ∈ L, o.key.size ≤ maxLen) :
    Calls Tryd.prog 8 #[.pointer (some ⟨sb, 0, none⟩)] w fun e w' => ∃ cb lb2 rb2, e = .returned (.pointer (some ⟨cb, 0, none⟩)) ∧ St w.heap.size w' cb lb2 rb2 (fun b => w.heap.size ≤ b ∧ b < w'.heap.size) n L ∧ Below w.heap.size w w' := by
  have hlh : ∀ s, maxLen < s.size → lstM L s = [] := fun s hs => by
    unfold lstM
    rw [List.filter_eq_nil_iff.2 (fun o ho c => by
      have q := (of_decide_eq_true c : o.kind = 1 ∧ o.key = s).2
      have := hks o ho
      rw [q] at this
      omega)]
    rfl
  have hrh : ∀ s, maxLen < s.size → regM L s = none := fun s hs => by
    unfold regM
    rw [List.find?_eq_none.2 (fun o ho c => by
      have q := (of_decide_eq_true c : o.kind = 3 ∧ o.key = s).2
      have := hks o (List.mem_reverse.1 ho)
      rw [q] at this
      omega)]
    rfl
  obtain ⟨S, hS⟩ := h.ls
  obtain ⟨f, hm, hf⟩ := hS.map
  have c0 := h.c0
  have c1 := h.c1
  have hsz := World.block_lt_of_cell? _ _ c0
  have HS := hid hS
  have HM := hid hm
  have HF := hid hf
  have H0 := hid h
  have HL := hid hl
  have HLH := hid hlh
  have HRH := hid hrh
  clear h hS hm hf hl hlh hrh hks
  go_enter Tryd.func8, Tryd.ntmps8
  go_wp2_with (first
    | (go_at_call 12; refine (isMade_yes _ _ _ c0).mono ?_; rintro e w' ⟨rfl, rfl⟩)
    | (go_at_call 11
       refine (new_is _).mono ?_
       rintro e w1 ⟨cb, lb2, rb2, rfl, hst1, hb1⟩
       have ST1 := hid hst1
       have B1 := hid hb1
       clear hst1 hb1
       have d0 : w1.cell? ⟨sb, 0, none⟩ = some (.map (some lb)) := (B1.out.cell (p := ⟨sb, 0, none⟩) hsz).trans c0
       have M1 : MapV w1 Tryd.prog 9 lb n f := HM.out.same (B1.out.block _ HM.out.lt))
    | (at_range; refine wpList_rangeV _ rfl _ 46 47 rfl Tryd.underlying9 keys9 Tryd.underlying46 lb n f rfl M1 ?_; intro w0 left0 cnt0 hrg0 hcn0 hlf0 hg0 hs0; have RG0 := hid hrg0; have LF0 := hid hlf0; have G0 := hid hg0; have CN0 := hid hcn0; have HS0 := hid hs0; clear hrg0 hlf0 hg0 hcn0 hs0))
  go_frame
  obtain ⟨r, hr⟩ : ∃ r, w1.heap.size = r := ⟨_, rfl⟩
  have HRr := hid hr
  rw [hr] at RG0 ⊢
  clear hr M1
  go_loopg [15] cnt0 (fun gk _ wr => ∃ (left : ByteArray → Bool) (cnt m : Nat) (S2 : ByteArray → Value), cnt ≤ gk ∧ Aside (RangeV wr Tryd.prog lb r n f left cnt) ∧ Aside (Ls w.heap.size wr lb2 (fun b => w.heap.size ≤ b ∧ b < wr.heap.size ∧ (b = lb2 ∨ r < b)) m (LP (lstM L) left) S2) ∧ Aside (m + cnt ≤ n) ∧ Aside (Gro (fun b => b = lb2 ∨ b = r) w1 wr))
  case atStart =>
    have hr1 : lb2 < r := by have := (ST1.out.flt lb2 ST1.out.fl).2; have := HRr.out; omega
    refine ⟨left0, cnt0, 0, fun _ => .slice none 0 0, Nat.le_refl _, RG0.out, (show Aside _ from ?_), (show Aside _ from by have := CN0.out; show 0 + cnt0 ≤ n; omega), (show Aside _ from ⟨G0.out.os, G0.out.tape, G0.out.output, G0.out.size, fun b hb _ => G0.out.block b hb (by simp)⟩)⟩
    have hnil : ∀ s, LP (lstM L) left0 s = [] := fun s => by
      unfold LP
      by_cases c : s.size ≤ maxLen ∧ left0 s = false
      · rw [if_pos c]
        have q := LF0.out s c.1
        rw [c.2, HF.out s] at q
        by_cases e : lstM L s = []
        · exact e
        · rw [if_neg e] at q
          cases q
      · rw [if_neg c]
    obtain ⟨S0, hS0⟩ := ST1.out.ls
    obtain ⟨f1, q1, q2⟩ := hS0.map
    refine ⟨⟨f1, q1.same (G0.out.block lb2 q1.lt (by simp)), fun s => ?_⟩, fun s _ => rfl, fun s => by rw [hnil s]; exact World.ownsRow_nil _ _ _ _, fun s g hg => by simp [Value.ownBlock] at hg, fun s s' g hg => by simp [Value.ownBlock] at hg⟩
    rw [q2 s, hnil s]
    rfl
  case round =>
    obtain ⟨left, cnt, m, S2, hgk, RG, LS, MC, GR⟩ := hrel
    have hrg := RG.out
    have hw1r := HRr.out
    have hw1w := B1.out.size
    have hwrs := GR.out.size
    have hlb2 := ST1.out.flt lb2 ST1.out.fl
    have hrb2 := ST1.out.flt rb2 ST1.out.fr
    have hcb2 := ST1.out.flt cb ST1.out.fs
    have hcl : cb ≠ lb2 := fun e => by
      obtain ⟨S0, hS0⟩ := ST1.out.ls
      obtain ⟨f1, q1, q2⟩ := hS0.map
      obtain ⟨es, ck, he⟩ := q1.block
      have := ST1.out.ob
      rw [e, he] at this
      cases this
    have OBR : Hid (wr.heap[cb]? = some (.cells #[.map (some lb2), .map (some rb2)] 50 (0, 0))) := (GR.out.block cb hcb2.2 (fun c => by rcases c with c | c; (· exact hcl c); (· omega))).trans ST1.out.ob
    have hne2 : lb2 ≠ rb2 := ST1.out.ne
    go_wp2_with (at_next; refine wpList_nextV _ rfl _ rfl Tryd.underlying9 keys9 lb _ n f left cnt rfl hrg ?_ ?_)
    · intro hl0
      have HL0 := hid hl0
      have B2 : Hid (Below w.heap.size w wr) := ⟨GR.out.os.trans B1.out.os, GR.out.tape.trans B1.out.tape, GR.out.output.trans B1.out.output, by omega, fun b hb => (GR.out.block b (by omega) (fun c => by rcases c with c | c <;> omega)).trans (B1.out.block b hb)⟩
      have RS : Hid (Rs wr.drew rb n (regM L)) := by
        obtain ⟨fr, q1, q2⟩ := H0.out.rs
        exact ⟨fr, q1.same (B2.out.block rb q1.lt), q2⟩
      obtain ⟨f0, q1, q2⟩ := ST1.out.rs
      have RD : Hid (MapV wr.drew Tryd.prog 9 rb2 0 f0) := q1.same (GR.out.block rb2 q1.lt (fun c => by rcases c with c | c; (· exact hne2 c.symm); (· omega)))
      have hrbw : rb < w.heap.size := by obtain ⟨fr, z1, _⟩ := H0.out.rs; exact z1.lt
      have MC2 : Hid (Calls Tryd.prog 22 #[.map (some rb2), .map (some rb)] wr.drew fun e w' => (∃ v, e = .returned v) ∧ Rs w' rb2 n (regM L) ∧ Gro (fun b => b = rb2) wr w') := (mcopy_is wr.drew rb2 rb n (regM L) f0 RD.out (fun s => by rw [q2 s]; rfl) RS.out (by omega) hn HRH.out).mono fun e w' ⟨z1, z2, z3⟩ => ⟨z1, z2, ⟨z3.os, z3.tape, z3.output, z3.size, z3.block⟩⟩
      have d1 : wr.cell? ⟨cb, 1, none⟩ = some (.map (some rb2)) := Lib.cell_of_heap OBR.out 1
      have d2 : wr.cell? ⟨sb, 1, none⟩ = some (.map (some rb)) := (B2.out.cell (p := ⟨sb, 1, none⟩) hsz).trans c1
      have hcr : cb ≠ rb2 := fun e => by
        obtain ⟨es, ck, he⟩ := q1.block
        have := ST1.out.ob
        rw [e, he] at this
        cases this
      clear hl0 hrg q1 q2
      go_wp2_with fail
      go_region_held3 (fun w' => w'.cell? ⟨cb, 1, none⟩ = some (.map (some rb2)) ∧ w'.cell? ⟨sb, 1, none⟩ = some (.map (some rb))) (go_keep) (first
        | (go_at_call 22
           refine MC2.out.mono ?_
           rintro e w7 ⟨⟨v7, rfl⟩, hr7, hg7⟩
           have R7 := hid hr7
           have G7 := hid hg7
           clear hr7 hg7
           have e1 : w7.cell? ⟨cb, 1, none⟩ = some (.map (some rb2)) := (World.cell?_of_block (a := ⟨cb, 1, none⟩) (G7.out.block cb (by show cb < wr.heap.size; omega) hcr)).trans d1
           have e2 : w7.cell? ⟨sb, 1, none⟩ = some (.map (some rb)) := (World.cell?_of_block (a := ⟨sb, 1, none⟩) (G7.out.block sb (by show sb < wr.heap.size; omega) (fun c => by have c' : sb = rb2 := c; omega))).trans d2))
      all_goals (try go_wp2_with fail)
      all_goals
        go_ret
        have hz7 := G7.out.size
        refine ⟨cb, lb2, rb2, rfl, ?_, ⟨G7.out.os.trans B2.out.os, G7.out.tape.trans B2.out.tape, G7.out.output.trans B2.out.output, by omega, fun b hb => (G7.out.block b (by omega) (fun c => by have c' : b = rb2 := c; omega)).trans (B2.out.block b hb)⟩⟩
        have hLP : LP (lstM L) left = lstM L := by
          funext z
          unfold LP
          by_cases hz : z.size ≤ maxLen
          · rw [if_pos ⟨hz, HL0.out z⟩]
          · rw [if_neg (fun c => hz c.1), HLH.out z (by omega)]
        have hls := LS.out
        rw [hLP] at hls
        obtain ⟨g9, z1, z2⟩ := hls.map
        have hmn2 : m ≤ n := by have := MC.out; omega
        have hnr : ∀ z g, (S2 z).ownBlock = some g → g ≠ rb2 := fun z g hg e => by
          have := (hls.foot z g hg).2.2
          rcases this with c | c
          · exact hne2 (by rw [← c, e])
          · omega
        exact ⟨(G7.out.block cb (by omega) hcr).trans OBR.out, hne2, ⟨by omega, by omega⟩, ⟨by omega, by omega⟩, ⟨by omega, by omega⟩, fun b hb => hb, ⟨S2, ⟨g9, (z1.same (G7.out.block lb2 (by omega) hne2)).mono hmn2, z2⟩, hls.nil, fun z => own_same (hls.own z) (fun g hg => G7.out.block g (hls.foot z g hg).2.1 (hnr z g hg)), fun z g hg => ⟨(hls.foot z g hg).1, by have := (hls.foot z g hg).2.1; omega⟩, hls.apart⟩, R7.out⟩
    · intro s v w2 cnt1 hs hl hfs hrg2 hlt hgr hsz2 hen
      have hls : ¬ lstM L s = [] := fun e => by rw [HF.out s, if_pos e] at hfs; cases hfs
      have hvS : v = S s := by rw [HF.out s, if_neg hls] at hfs; injection hfs with e; exact e.symm
      obtain ⟨sa, sc, hsl, hcl2⟩ := own_cells (HS.out.own s)
      rw [hsl] at hvS
      subst hvS
      have HLS := hid hls
      have RG2 := hid hrg2
      have GR2 := hid hgr
      have B2 : Hid (Below w.heap.size w w2) := ⟨GR2.out.os.trans (GR.out.os.trans B1.out.os), GR2.out.tape.trans (GR.out.tape.trans B1.out.tape), GR2.out.output.trans (GR.out.output.trans B1.out.output), by omega, fun b hb => (GR2.out.block b (by omega) (fun e => by injection e with e; omega)).trans ((GR.out.block b (by omega) (fun c => by rcases c with c | c <;> omega)).trans (B1.out.block b hb))⟩
      have CC : Hid (Calls Tryd.prog 21 #[.slice sa (lstM L s).length sc] w2.drew fun e w' => ∃ v, e = .returned v ∧ w'.ownsRow w2.heap.size 3 1 v (lstM L s).length ((lstM L s).map (Value.int .i64)) ∧ Below w2.heap.size w2 w') := (copied_is w2.drew sa sc (lstM L s) (hcl2.later (below_drewN B2.out 1)) (HL.out s)).mono fun e w' ⟨v, q1, q2, q3⟩ => ⟨v, q1, q2, ⟨q3.os, q3.tape, q3.output, q3.size, q3.block⟩⟩
      obtain ⟨N, hN⟩ : ∃ N, (lstM L s).length = N := ⟨_, rfl⟩
      have HN := hid hN
      have LS2 : Hid (Ls w.heap.size w2 lb2 (fun b => w.heap.size ≤ b ∧ b < w2.heap.size ∧ (b = lb2 ∨ r < b)) m (LP (lstM L) left) S2) := LS.out.keep ⟨by omega, by omega, .inl rfl⟩ (fun b hb => GR2.out.block b hb.2.1 (fun e => by injection e with e; rcases hb.2.2 with c | c <;> omega)) (fun b hb => ⟨hb.1, by omega, hb.2.2⟩)
      have OB2 : Hid (w2.heap[cb]? = some (.cells #[.map (some lb2), .map (some rb2)] 50 (0, 0))) := (GR2.out.block cb (by omega) (fun e => by injection e with e; omega)).trans OBR.out
      have d2 : w2.cell? ⟨cb, 0, none⟩ = some (.map (some lb2)) := Lib.cell_of_heap OB2.out 0
      rw [hN] at CC hen ⊢
      clear hfs hrg2 hgr hrg hl hls hcl2 hsl hN
      have hmn : m < maxLen := by have := MC.out; omega
      go_wp2_with fail
      go_region_held3 (fun w' => w'.cell? ⟨cb, 0, none⟩ = some (.map (some lb2))) (go_keep) (first
        | (go_at_call 21
           refine CC.out.mono ?_
           rintro e w5 ⟨v5, rfl, o5, b5⟩
           obtain ⟨va, vc, hv5⟩ := own_slice o5
           have LS5 : Hid (LsX w.heap.size w5 lb2 (fun b => w.heap.size ≤ b ∧ b < w2.heap.size ∧ (b = lb2 ∨ r < b)) m s (LP (lstM L) left) S2) := (LS2.out.less s).keep (b5.block lb2 (by omega)) (fun z g hz hg => b5.block g (LS2.out.foot z g hg).2.1) (fun _ x => x)
           obtain ⟨g0, hm0, hf0⟩ := LS5.out.map
           obtain ⟨w7, g7, hrun, hp, r1, r2⟩ := hm0.put keys9 Tryd.underlying46 hmn v5 (key9 s hs)
           subst hv5
           have O5 := hid o5
           have B5 := hid b5
           have M0 := hid hm0
           have F0 := hid hf0
           have P7 := hid hp
           have R7 := hid r1
           have G7 := hid r2
           clear o5 b5 hm0 hf0 hp r1 r2
           have k5 : w5.cell? ⟨cb, 0, none⟩ = some (.map (some lb2)) := (B5.out.cell (p := ⟨cb, 0, none⟩) (by show cb < w2.heap.size; omega)).trans d2
           have k7 : w7.cell? ⟨cb, 0, none⟩ = some (.map (some lb2)) := (World.cell?_of_block (a := ⟨cb, 0, none⟩) (G7.out.block cb (World.block_lt_of_cell? _ _ k5) (fun e => hcl (by injection e)))).trans k5))
      all_goals (try go_wp2_with fail)
      all_goals
        have hz5 := B5.out.size
        have hz7 := G7.out.size
        have hrl := RG2.out.lt
        have hlbl := RG2.out.owns.lt
        have hlw := HM.out.lt
        have hkeep : ∀ b, b < w2.heap.size → b ≠ lb2 → w7.heap[b]? = w2.heap[b]? := fun b hb hn => (G7.out.block b (by omega) (fun e => hn (by injection e))).trans (B5.out.block b hb)
        have LS6 : LsX w.heap.size w5 lb2 (fun b => w.heap.size ≤ b ∧ b < w7.heap.size ∧ (b = lb2 ∨ r < b)) m s (LP (lstM L) left) S2 := LS5.out.keep rfl (fun _ _ _ _ => rfl) (fun b hb => ⟨hb.1, by omega, hb.2.2⟩)
        have hO : w5.ownsRow w.heap.size 3 1 (.slice va N vc) (lstM L s).length ((lstM L s).map (Value.int .i64)) := own_mono (by have := O5.out; rw [HN.out]; exact this) (by omega)
        obtain ⟨S7, hS7⟩ := LS6.put hO HLS.out (fun g hg => by
          have q1 := (own_block2 O5.out hg)
          exact ⟨by omega, by omega, .inr (by omega)⟩) (fun z g hz hg hc => by
          have q1 := (own_block2 O5.out hg).1
          have q2 := (LS2.out.foot z g hc).2.1
          omega) g0 g7 F0.out M0.out P7.out R7.out G7.out
        rw [LP_next (lstM L) left s hs] at hS7
        have SS7 := hid hS7
        clear hS7
        go_roundg cnt1
        case measure => omega
        case rel =>
          refine ⟨fun z => left z && !decide (z = s), cnt1, m + 1, S7, Nat.le_refl _, (show Aside _ from RG2.out.same (hkeep lb hlbl (by omega)) (hkeep r hrl (by omega))), SS7.out, (show Aside _ from by have := MC.out; show m + 1 + cnt1 ≤ n; omega), (show Aside _ from ⟨G7.out.os.trans (B5.out.os.trans (GR2.out.os.trans GR.out.os)), G7.out.tape.trans (B5.out.tape.trans (GR2.out.tape.trans GR.out.tape)), G7.out.output.trans (B5.out.output.trans (GR2.out.output.trans GR.out.output)), by omega, fun b hb hn => ?_⟩)⟩
          exact (hkeep b (by omega) (fun e => hn (.inl e))).trans ((GR2.out.block b (by omega) (fun e => by injection e with e; exact hn (.inr e))).trans (GR.out.block b hb hn))
end Go.Proofs.YtjeheknhpfkaiaaDoor
