/-
  maps.Copy of registers.
-/
import Derived.Test.YtjeheknhpfkaiaaDoorM9
namespace Go.Proofs.YtjeheknhpfkaiaaDoor
set_option linter.unusedVariables false
set_option linter.unusedSimpArgs false
open Go.RowKit Go.Lib Go.Maps

set_option maxHeartbeats 2000000 in
theorem mcopy_is (w : World) (db rb n : Nat) (R : ByteArray → Option Int) (f0 : Value → Option Value) (hd : MapV w Tryd.prog 9 db 0 f0) (hf0 : ∀ s, f0 (.string s) = none) (hr : Rs w rb n R) (hne : db ≠ rb) (hn : n < maxLen) (hR : ∀ s, maxLen < s.size → R s = none) :
    Calls Tryd.prog 22 #[.map (some db), .map (some rb)] w fun e w' => (∃ v, e = .returned v) ∧ Rs w' db n R ∧ Gro (fun b => b = db) w w' := by
  obtain ⟨f, hm, hf⟩ := hr
  have HF := hid hf
  have HR := hid hR
  have HD := hid hd
  have HF0 := hid hf0
  clear hf hR hd hf0
  go_enter Tryd.func22, Tryd.ntmps22
  go_wp2_with (at_range; refine wpList_rangeV _ rfl _ 48 54 rfl Tryd.underlying9 keys9 Tryd.underlying48 rb n f rfl hm ?_; intro w0 left0 cnt0 hrg0 hcn0 hlf0 hg0 hs0; have RG0 := hid hrg0; have LF0 := hid hlf0; have G0 := hid hg0; have CN0 := hid hcn0; have HS0 := hid hs0; clear hrg0 hlf0 hg0 hcn0 hs0)
  go_frame
  go_loopg [8] cnt0 (fun gk _ wr => ∃ (left : ByteArray → Bool) (cnt m : Nat) (g : Value → Option Value), cnt ≤ gk ∧ Aside (RangeV wr Tryd.prog rb w.heap.size n f left cnt) ∧ Aside (MapV wr Tryd.prog 9 db m g) ∧ Aside (m + cnt ≤ n) ∧ Aside (∀ s : ByteArray, g (.string s) = if s.size ≤ maxLen ∧ left s = false then f (.string s) else none) ∧ Aside (Gro (fun b => b = db) w wr))
  case atStart =>
    refine ⟨left0, cnt0, 0, f0, Nat.le_refl _, RG0.out, (show Aside _ from HD.out.same (G0.out.block db HD.out.lt (by simp))), (show Aside _ from by have := CN0.out; show 0 + cnt0 ≤ n; omega), (show Aside _ from fun s => ?_), (show Aside _ from ⟨G0.out.os, G0.out.tape, G0.out.output, G0.out.size, fun b hb _ => G0.out.block b hb (by simp)⟩)⟩
    rw [HF0.out s]
    by_cases hs : s.size ≤ maxLen
    · have q := LF0.out s hs
      cases hl : left0 s with
      | true => simp
      | false =>
        rw [if_pos ⟨hs, rfl⟩]
        rw [hl] at q
        cases hfs : f (.string s) with
        | none => rfl
        | some v => rw [hfs] at q; cases q
    · rw [if_neg (fun c => hs c.1)]
  case round =>
    obtain ⟨left, cnt, m, g, hgk, RG, MG, MC, GG, GR⟩ := hrel
    have hrg := RG.out
    go_wp2_with (at_next; refine wpList_nextV _ rfl _ rfl Tryd.underlying9 keys9 rb _ n f left cnt rfl hrg ?_ ?_)
    · intro hl0
      have HL0 := hid hl0
      clear hl0 hrg
      go_wp2_with fail
      go_end0
      refine ⟨⟨_, rfl⟩, ⟨g, MG.out.mono (by have := MC.out; omega), fun s => ?_⟩, GR.out⟩
      rw [GG.out s]
      by_cases hs : s.size ≤ maxLen
      · rw [if_pos ⟨hs, HL0.out s⟩]
        exact HF.out s
      · rw [if_neg (fun c => hs c.1), HR.out s (by omega)]
        rfl
    · intro s v w1 cnt1 hs hl hfs hrg1 hlt hgr hsz hen
      obtain ⟨x, hx⟩ : ∃ x, v = .agg #[.int .i64 x, .bool true] := by
        rw [HF.out s] at hfs
        cases hrs : R s with
        | none => rw [hrs] at hfs; cases hfs
        | some x =>
          rw [hrs] at hfs
          exact ⟨x, by injection hfs with e; exact e.symm⟩
      subst hx
      have HFS := hid hfs
      have RG1 := hid hrg1
      have GR1 := hid hgr
      have hdl := HD.out.lt
      have hwl := GR.out.size
      have MG1 : Hid (MapV (w1.alloc (.cells #[.int .i64 x, .bool true] 54)) Tryd.prog 9 db m g) := (MG.out.same (GR1.out.block db (by omega) (fun e => by injection e with e; omega))).same ((below_box w1 _).block db (by omega))
      have hmn : m < maxLen := by have := MC.out; omega
      clear hfs hrg1 hgr hrg hl
      go_wp2_with (at_mapUpdate; refine wpList_mapV _ rfl _ _ _ 48 rfl 9 54 keys9 Tryd.underlying48 db m g rfl MG1.out hmn (.string s) (.agg #[.int .i64 x, .bool true]) _ rfl rfl (key9 s hs) ?_; intro w2 g2 hp hm2 hg2; have P2 := hid hp; have M2 := hid hm2; have GW2 := hid hg2; clear hp hm2 hg2)
      have hrt := RG1.out.lt
      go_roundg cnt1
      case measure => omega
      case rel =>
        have hsz2 : w1.heap.size + 1 ≤ w2.heap.size := by have := GW2.out.size; rw [alloc_size] at this; exact this
        have hkeep : ∀ b, b < w1.heap.size → b ≠ db → w2.heap[b]? = w1.heap[b]? := fun b hb hn => (GW2.out.block b (by rw [alloc_size]; omega) (fun e => hn (by injection e))).trans ((below_box w1 _).block b hb)
        have hrbl := RG1.out.owns.lt
        refine ⟨fun z => left z && !decide (z = s), cnt1, m + 1, g2, Nat.le_refl _, (show Aside _ from RG1.out.same (hkeep rb hrbl (fun e => hne e.symm)) (hkeep w.heap.size hrt (by omega))), (show Aside _ from M2.out), (show Aside _ from by have := MC.out; show m + 1 + cnt1 ≤ n; omega), (show Aside _ from fun z => ?_), (show Aside _ from ⟨GW2.out.os.trans (GR1.out.os.trans GR.out.os), GW2.out.tape.trans (GR1.out.tape.trans GR.out.tape), GW2.out.output.trans (GR1.out.output.trans GR.out.output), by omega, fun b hb hn => ?_⟩)⟩
        · by_cases e : z = s
          · subst e
            rw [P2.out.1, if_pos ⟨hs, by simp⟩, HFS.out]
          · rw [P2.out.2 _ (fun c => e (by injection c)), GG.out z]
            simp [e]
        · exact (hkeep b (by omega) hn).trans ((GR1.out.block b (by omega) (fun e => by injection e with e; omega)).trans (GR.out.block b hb hn))
end Go.Proofs.YtjeheknhpfkaiaaDoor
