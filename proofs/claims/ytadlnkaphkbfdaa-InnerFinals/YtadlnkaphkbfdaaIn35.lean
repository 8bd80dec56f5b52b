/-
  InnerFinals: the law's own walk.
-/
import Derived.Test.YtadlnkaphkbfdaaIn34
namespace Go.Proofs.Ytadlnkaphkbfdaa
set_option linter.unusedVariables false
set_option linter.unusedSimpArgs false
open Go.RowKit Go.Lib Go.Maps

def bList : ByteArray := ⟨#[108, 105, 115, 116]⟩
def bReg : ByteArray := ⟨#[114, 101, 103, 105, 115, 116, 101, 114]⟩
def tagB (o : MOp) : ByteArray := if o.kind = 3 then bReg else bList
/-- Among the operations from m on there is a write of the thing. -/
def metP (l : List MOp) (m : Nat) (s tg : ByteArray) : Prop := ∃ j, m ≤ j ∧ j < l.length ∧ wrt (opAt l j) = true ∧ (opAt l j).key = s ∧ tagB (opAt l j) = tg
theorem tag_thg {o o' : MOp} (h : wrt o = true) (h' : wrt o' = true) : tagB o = tagB o' ↔ thg o.kind = thg o'.kind := by
  unfold wrt at h h'
  unfold tagB thg
  simp only [Bool.or_eq_true, beq_iff_eq] at h h'
  have hne : bReg ≠ bList := by decide
  rcases h with h | h <;> rcases h' with h' | h' <;> rw [h, h'] <;> simp [hne, hne.symm]
theorem fin_iff {l : List MOp} {m : Nat} (hm : m < l.length) (hw : wrt (opAt l m) = true) : Fin l l.length m ↔ ¬ metP l (m + 1) (opAt l m).key (tagB (opAt l m)) := by
  constructor
  · rintro ⟨_, _, h⟩ ⟨j, h1, h2, h3, h4, h5⟩
    exact h j (by omega) h2 h3 ⟨(tag_thg h3 hw).1 h5, h4⟩
  · intro h
    refine ⟨hm, hw, fun j h1 h2 h3 hc => h ⟨j, by omega, h2, h3, hc.2, (tag_thg h3 hw).2 hc.1⟩⟩
theorem met_step {l : List MOp} {m : Nat} (hm : m < l.length) (hw : wrt (opAt l m) = true) (s tg : ByteArray) : metP l m s tg ↔ ((opAt l m).key = s ∧ tagB (opAt l m) = tg) ∨ metP l (m + 1) s tg := by
  constructor
  · rintro ⟨j, h1, h2, h3, h4, h5⟩
    by_cases e : j = m
    · subst e; exact .inl ⟨h4, h5⟩
    · exact .inr ⟨j, by omega, h2, h3, h4, h5⟩
  · rintro (⟨h1, h2⟩ | ⟨j, h1, h2, h3⟩)
    · exact ⟨m, Nat.le_refl _, hm, hw, h1, h2⟩
    · exact ⟨j, by omega, h2, h3⟩
theorem met_skip {l : List MOp} {m : Nat} (hw : wrt (opAt l m) = false) (s tg : ByteArray) : metP l m s tg ↔ metP l (m + 1) s tg := by
  constructor
  · rintro ⟨j, h1, h2, h3, h4⟩
    by_cases e : j = m
    · subst e; rw [hw] at h3; cases h3
    · exact ⟨j, by omega, h2, h3, h4⟩
  · rintro ⟨j, h1, h2⟩
    exact ⟨j, by omega, h2⟩

/-- The map holds the things that were met. -/
def Met (w : World) (mb n : Nat) (Q : ByteArray → ByteArray → Prop) : Prop :=
  ∃ f : Value → Option Value, MapV w Try.prog 33 mb n f ∧ ∀ a b, (Q a b ∧ f (arV a b) = some (.bool true)) ∨ (¬ Q a b ∧ f (arV a b) = none)
theorem Met.made (w : World) (Q : ByteArray → ByteArray → Prop) (h : ∀ a b, ¬ Q a b) : Met (w.alloc (.map #[] 0)) w.heap.size 0 Q := ⟨_, MapV.made w _ _, fun a b => .inr ⟨h a b, rfl⟩⟩
theorem Met.lt {w : World} {mb n : Nat} {Q : ByteArray → ByteArray → Prop} (h : Met w mb n Q) : mb < w.heap.size := by obtain ⟨f, h1, _⟩ := h; exact h1.lt
theorem Met.same {w w' : World} {mb n : Nat} {Q : ByteArray → ByteArray → Prop} (h : Met w mb n Q) (hb : w'.heap[mb]? = w.heap[mb]?) : Met w' mb n Q := by
  obtain ⟨f, h1, h2⟩ := h
  exact ⟨f, h1.same hb, h2⟩
theorem Met.congr {w : World} {mb n m : Nat} {Q Q' : ByteArray → ByteArray → Prop} (h : Met w mb n Q) (hn : n ≤ m) (e : ∀ a b, Q' a b ↔ Q a b) : Met w mb m Q' := by
  obtain ⟨f, h1, h2⟩ := h
  exact ⟨f, h1.mono hn, fun a b => by rw [e a b]; exact h2 a b⟩
theorem zero4 (w : World) : (zeroValue 4).run Try.prog w = .ok (.bool false) w := by kernel_rfl
theorem Met.look {w : World} {mb n : Nat} {Q : ByteArray → ByteArray → Prop} (h : Met w mb n Q) (a b : ByteArray) (ha : a.size ≤ maxLen) (hb : b.size ≤ maxLen) (r : Bool) (hr : r = true ↔ Q a b) : (Instr.lookup 32 (.map (some mb)) (arV a b) false).run Try.prog w = .ok (.bool r) w := by
  obtain ⟨f, h1, h2⟩ := h
  obtain ⟨kl, hk⟩ := key_ar a b ha hb
  rw [h1.look keys33 Try.underlying32 (zero4 w) hk]
  rcases h2 a b with ⟨q, e⟩ | ⟨q, e⟩
  · rw [e, hr.2 q]; rfl
  · rw [e]
    have : r = false := by cases r with | true => exact absurd (hr.1 rfl) q | false => rfl
    rw [this]; rfl
theorem Met.put {w : World} {mb n : Nat} {Q : ByteArray → ByteArray → Prop} (h : Met w mb n Q) (hn : n < maxLen) (a b : ByteArray) (ha : a.size ≤ maxLen) (hb : b.size ≤ maxLen) :
    ∃ w', (Instr.mapUpdate 32 (.map (some mb)) (arV a b) (.bool true)).run Try.prog w = .ok () w' ∧ Met w' mb (n + 1) (fun x y => (a = x ∧ b = y) ∨ Q x y) ∧ w.grownBy w' (some mb) := by
  obtain ⟨f, h1, h2⟩ := h
  obtain ⟨kl, hk⟩ := key_ar a b ha hb
  obtain ⟨w', g, r1, hp, r2, r3⟩ := h1.put keys33 Try.underlying32 hn (.bool true) hk
  refine ⟨w', r1, ⟨g, r2, fun x y => ?_⟩, r3⟩
  by_cases e : a = x ∧ b = y
  · obtain ⟨rfl, rfl⟩ := e
    exact .inl ⟨.inl ⟨rfl, rfl⟩, hp.1⟩
  · rw [hp.2 _ (fun c => e (by obtain ⟨c1, c2⟩ := arV_inj c; exact ⟨c1.symm, c2.symm⟩))]
    rcases h2 x y with ⟨q, e2⟩ | ⟨q, e2⟩
    · exact .inl ⟨.inr q, e2⟩
    · exact .inr ⟨fun c => c.elim e q, e2⟩

theorem ct_le (P : Nat → Bool) : ∀ (k i : Nat), ct P i k ≤ k
  | 0, i => Nat.le_refl _
  | k + 1, i => by
    have ih := ct_le P k (i + 1)
    unfold ct
    split <;> omega
theorem finB_yes {l : List MOp} {i : Nat} (h : Fin l l.length i) : finB l i = true := finB_iff.2 h
theorem finB_no {l : List MOp} {i : Nat} (h : ¬ Fin l l.length i) : finB l i = false := by cases e : finB l i with | false => rfl | true => exact absurd (finB_iff.1 e) h
/-- met[at] = true, in a walk. -/
theorem wpList_met {ops : Array Oper} {rest : List Oper} {o : Oper} {a : Act} {Q : Exit → Act → World → Prop} (w : World) (hg : o.guard = none) (m x v : Operand) (hop : o.op = Op.mapUpdate 32 m x v) (mb n : Nat) (R : ByteArray → ByteArray → Prop)
    (hm : a.eval m = .map (some mb)) (h : Met w mb n R) (hn : n < maxLen) (ka kb : ByteArray) (hx : a.eval x = .agg #[.string ka, .string kb]) (hv : a.eval v = .bool true) (ha : ka.size ≤ maxLen) (hb : kb.size ≤ maxLen)
    (hK : ∀ w', Met w' mb (n + 1) (fun x y => (ka = x ∧ kb = y) ∨ R x y) → w.grownBy w' (some mb) → wpList Try.prog ops Q rest (a.put o.dst undef) w') : wpList Try.prog ops Q (o :: rest) a w := by
  refine wpList_plain hg fun K' hK' => ?_
  obtain ⟨w', hrun, r1, r2⟩ := h.put hn ka kb ha hb
  have hrun' : (Instr.mapUpdate 32 (.map (some mb)) (.agg #[.string ka, .string kb]) (.bool true)).run Try.prog w = .ok () w' := hrun
  unfold Oper.wp
  simp [execOp, hop, hm, hx, hv, hrun', Result.andThen]
  exact hK' _ _ (hK w' r1 r2)

set_option maxHeartbeats 8000000 in
set_option maxRecDepth 100000 in
theorem finals_walk (v : Value) (l : List MOp) (w : World) (h : OpsIn Any w v l) (hk : ∀ i, OpKey (l.getD i default)) (hks : ∀ i, (l.getD i default).key.size ≤ maxLen) :
    Calls Try.prog 6 #[v] w fun e w' => e = .returned (.bool true) ∧ Below w.heap.size w w' := by
  have HFN := hid (finals_is v l w h hk)
  obtain ⟨ao, c, rfl, ⟨hlen, hcap⟩, hc⟩ := ops_at h
  have HC := hid hc
  have HKS := hid hks
  clear h hc hk hks
  have hlen2 : (l.length : Int) ≤ 2199023255552 := by omega
  have hmm := @run_makeMap Try.prog
  go_enter Try.func6, Try.ntmps6
  go_wp2_with fail
  go_at_call 15
  refine HFN.out.mono ?_
  rintro e w1 ⟨v', rfl, hi, hfl, b1⟩
  have FI := hid hi
  have B1 := hid b1
  have FL := hid hfl
  obtain ⟨pa, pc, hpv, -⟩ := hi.cells
  subst hpv
  clear hi b1 hfl HFN
  obtain ⟨fs, hfs⟩ : ∃ fs, finsL l = fs := ⟨_, rfl⟩
  rw [hfs] at FI FL
  rw [hfs]
  have HFS := hid hfs
  clear hfs
  go_wp2_with fail
  have HGB : Hid (∀ g, (Value.slice pa fs.length pc).ownBlock = some g → w.heap.size ≤ g ∧ g < w1.heap.size) := fun g hg => FI.out.block hg
  go_loopg [5, 6, 7] l.length (fun g nn iv _ wr => ∃ (m : Nat) (i : Int), m ≤ l.length ∧ m ≤ g ∧ iv = .int .i64 i ∧ i = (m : Int) - 1 ∧ nn = .int .i64 ((ct (finB l) m (l.length - m) : Nat) : Int) ∧ Aside (Below w.heap.size w wr) ∧ Aside (Met wr w1.heap.size (l.length - m) (metP l m)) ∧ Aside (IR w.heap.size wr (.slice pa fs.length pc) fs) ∧ Aside (w1.heap.size < wr.heap.size))
  case atStart =>
    refine ⟨l.length, _, Nat.le_refl _, Nat.le_refl _, rfl, by go_num, ?_, ?_, ?_, ?_, ?_⟩
    · rw [Nat.sub_self]; rfl
    · exact B1.out.trans ((below_box w1 _).mono B1.out.size)
    · rw [Nat.sub_self]
      exact Met.made w1 _ (fun a b ⟨j, h1, h2, _⟩ => by omega)
    · exact FI.out.same (fun g hg => (below_box w1 _).block g (FI.out.block hg).2)
    · show w1.heap.size < _; simp
  case round =>
    obtain ⟨m, i, hm, hg, rfl, hi, rfl, BX, MX, IX, SX⟩ := hrel
    cases m with
    | zero =>
      have hneg : ¬ (0 : Int) ≤ i := by omega
      have HEQ : (((ct (finB l) 0 (l.length - 0) : Nat) : Int) == (fs.length : Int)) = true := by
        rw [Nat.sub_zero, ← fins_len, HFS.out]; simp
      generalize ct (finB l) 0 (l.length - 0) = N at *
      go_wp2_with fail
      go_ret
      exact ⟨rfl, BX.out⟩
    | succ m =>
      obtain rfl : i = (m : Int) := by omega
      clear hi
      have hjl : m < l.length := by omega
      have hjli : (m : Int) < l.length := by omega
      obtain ⟨bz, oz, lv, rfl, -, k0, k1, -, -, -, -⟩ := HC.out m hjl
      have d0 := (BX.out.cell (p := ⟨bz, oz + m * 6, none⟩) (World.block_lt_of_cell? _ _ k0)).trans k0
      have d1 := (BX.out.cell (p := ⟨bz, oz + m * 6 + 1, none⟩) (World.block_lt_of_cell? _ _ k1)).trans k1
      have hbz : bz < wr.heap.size := World.block_lt_of_cell? _ _ d0
      clear k0 k1
      have OKS := hid (HKS.out m)
      obtain ⟨O, hO⟩ : ∃ O, opAt l m = O := ⟨_, rfl⟩
      have hO' : l.getD m default = O := hO
      rw [hO'] at d0 d1 OKS
      clear hO'
      have CTS : Hid (ct (finB l) m (l.length - m) = (if finB l m = true then 1 else 0) + ct (finB l) (m + 1) (l.length - (m + 1))) := by
        show ct (finB l) m (l.length - m) = _
        rw [show l.length - m = (l.length - (m + 1)) + 1 by omega]
        rfl
      by_cases hk : O.kind = 3
      · rw [hk] at d0
        have e0 := Lib.cell?_alloc_some (.cells #[.string O.key, .string ⟨#[108, 105, 115, 116]⟩] 33) d0
        have e1 := Lib.cell?_alloc_some (.cells #[.string O.key, .string ⟨#[108, 105, 115, 116]⟩] 33) d1
        have hw : wrt O = true := by unfold wrt; rw [hk]; rfl
        have htg : tagB O = bReg := by unfold tagB; rw [hk]; rfl
        obtain ⟨r, hr⟩ : ∃ r : Bool, r = true ↔ metP l (m + 1) O.key bReg := by classical exact ⟨decide (metP l (m + 1) O.key bReg), by simp⟩
        have HFB : Hid (finB l m = !r) := by
          have h1 := fin_iff hjl (by rw [hO]; exact hw)
          rw [hO, htg] at h1
          show finB l m = !r
          cases r with
          | true => exact finB_no (fun c => h1.1 c (hr.1 rfl))
          | false => exact finB_yes (h1.2 (fun c => by have := hr.2 c; cases this))
        have HCT : Hid (decide ((m : Int) ∈ fs) = !r) := by
          show decide ((m : Int) ∈ fs) = !r
          rw [← HFB.out, ← HFS.out]
          have h2 : ((m : Int) ∈ finsL l) ↔ Fin l l.length m := by
            rw [mem_fins]
            exact ⟨fun ⟨i, e, h⟩ => by have : i = m := by omega
                                       subst this; exact h, fun h => ⟨m, rfl, h⟩⟩
          by_cases hf : Fin l l.length m
          · rw [decide_eq_true (h2.2 hf), finB_yes hf]
          · rw [decide_eq_false (fun c => hf (h2.1 c)), finB_no hf]
        have HST : Hid (∀ x y, metP l m x y ↔ ((O.key = x ∧ ⟨#[114, 101, 103, 105, 115, 116, 101, 114]⟩ = y) ∨ metP l (m + 1) x y)) := fun x y => by have h3 := met_step hjl (by rw [hO]; exact hw) x y; rw [hO, htg] at h3; exact h3
        have HR := hid hr
        clear hw htg hr hO
        go_upto_region 12 with fail
        obtain ⟨W, hW⟩ : ∃ W, (wr.alloc (.cells #[.string O.key, .string ⟨#[114, 101, 103, 105, 115, 116, 101, 114]⟩] 33)) = W := ⟨_, rfl⟩
        rw [hW]
        have q0 : W.cell? ⟨wr.heap.size, 0, none⟩ = some (.string O.key) := by rw [← hW]; simp
        have q1 : W.cell? ⟨wr.heap.size, 1, none⟩ = some (.string ⟨#[114, 101, 103, 105, 115, 116, 101, 114]⟩) := by rw [← hW]; simp
        have BWW : Hid (Below wr.heap.size wr W) := by show Below _ _ _; rw [← hW]; exact below_box wr _
        have MW : Hid (∀ q, Met (W.drewN q) w1.heap.size (l.length - (m + 1)) (metP l (m + 1))) := fun q => MX.out.same (BWW.out.block _ MX.out.lt)
        have IW : Hid (∀ q, IR w.heap.size (W.drewN q) (.slice pa fs.length pc) fs) := fun q => IX.out.same (fun g hg => BWW.out.block g (IX.out.block hg).2)
        have hlook : ∀ q, (Instr.lookup 32 (.map (some w1.heap.size)) (.agg #[.string O.key, .string ⟨#[114, 101, 103, 105, 115, 116, 101, 114]⟩]) false).run Try.prog (W.drewN q) = .ok (.bool r) (W.drewN q) := fun q => (MW.out q).look O.key ⟨#[114, 101, 103, 105, 115, 116, 101, 114]⟩ OKS.out (by decide) r HR.out
        have CI : ∀ q, Calls Try.prog 18 #[.slice pa fs.length pc, .int .i64 m] (W.drewN q) fun e w'' => e = .returned (.bool (!r)) ∧ ∃ k, w'' = W.drewN k := fun q => by have h4 := containsI_is _ fs (m : Int) _ (IW.out q) (by have := FL.out; omega); rw [HCT.out] at h4; exact h4.mono (fun e w' ⟨h1, h2⟩ => ⟨h1, q, h2.symm⟩)
        have CIH := hid CI
        have hwlt : wr.heap.size < W.heap.size := World.block_lt_of_cell? _ _ q0
        clear CI hW d0 d1 e0 e1
        obtain ⟨N, hN⟩ : ∃ N, ct (finB l) (m + 1) (l.length - (m + 1)) = N := ⟨_, rfl⟩
        have hNb : (N : Int) ≤ 2199023255552 := by have h5 := ct_le (finB l) (l.length - (m + 1)) (m + 1); rw [hN] at h5; omega
        rw [hN]
        have HNN := hid hN
        clear hN
        cases r with
        | true =>
          rw [Bool.not_true] at CIH HFB
          go_wp2_with fail
          go_quiet ((go_at_call 18; exact CIH.out _))
          go_wp2_with (at_mapUpdate; refine wpList_met _ rfl _ _ _ rfl w1.heap.size (l.length - (m + 1)) (metP l (m + 1)) rfl (MW.out _) (by unfold maxLen; omega) O.key ⟨#[114, 101, 103, 105, 115, 116, 101, 114]⟩ rfl rfl OKS.out (by decide) ?_; intro w5 hm5 hg5; have M5 := hid hm5; have G5 := hid hg5; clear hm5 hg5)
          have S5 : W.heap.size ≤ w5.heap.size := G5.out.size
          have KP : Hid (∀ b, b < W.heap.size → b ≠ w1.heap.size → w5.heap[b]? = W.heap[b]?) := fun b hb hn => G5.out.block b hb (fun e => by injection e with e; omega)
          have SX2 := SX.out
          have SB := B1.out.size
          go_roundg m
          case measure => omega
          case rel =>
            refine ⟨m, _, by omega, by omega, rfl, by go_num, ?_, (show Aside _ from BX.out.trans ((BWW.out.mono (by omega)).trans ⟨G5.out.os, G5.out.tape, G5.out.output, S5, fun b hb => KP.out b (by omega) (by omega)⟩)), (show Aside _ from M5.out.congr (by omega) HST.out), (show Aside _ from (IW.out 0).same (fun g hg => KP.out g (by have := HGB.out g hg; omega) (by have := HGB.out g hg; omega))), (show Aside _ from by show w1.heap.size < w5.heap.size; omega)⟩
            rw [CTS.out, HFB.out]; simp [HNN.out]
        | false =>
          rw [Bool.not_false] at CIH HFB
          go_wp2_with fail
          go_quiet ((go_at_call 18; exact CIH.out _))
          go_wp2_with (at_mapUpdate; refine wpList_met _ rfl _ _ _ rfl w1.heap.size (l.length - (m + 1)) (metP l (m + 1)) rfl (MW.out _) (by unfold maxLen; omega) O.key ⟨#[114, 101, 103, 105, 115, 116, 101, 114]⟩ rfl rfl OKS.out (by decide) ?_; intro w5 hm5 hg5; have M5 := hid hm5; have G5 := hid hg5; clear hm5 hg5)
          have S5 : W.heap.size ≤ w5.heap.size := G5.out.size
          have KP : Hid (∀ b, b < W.heap.size → b ≠ w1.heap.size → w5.heap[b]? = W.heap[b]?) := fun b hb hn => G5.out.block b hb (fun e => by injection e with e; omega)
          have SX2 := SX.out
          have SB := B1.out.size
          go_roundg m
          case measure => omega
          case rel =>
            refine ⟨m, _, by omega, by omega, rfl, by go_num, ?_, (show Aside _ from BX.out.trans ((BWW.out.mono (by omega)).trans ⟨G5.out.os, G5.out.tape, G5.out.output, S5, fun b hb => KP.out b (by omega) (by omega)⟩)), (show Aside _ from M5.out.congr (by omega) HST.out), (show Aside _ from (IW.out 0).same (fun g hg => KP.out g (by have := HGB.out g hg; omega) (by have := HGB.out g hg; omega))), (show Aside _ from by show w1.heap.size < w5.heap.size; omega)⟩
            rw [CTS.out, HFB.out]; simp [HNN.out]; try omega
      have hk3 : (O.kind == 3) = false := by simp [hk]
      clear hk
      by_cases hk : O.kind = 1
      · rw [hk] at d0
        clear hk3
        have e0 := Lib.cell?_alloc_some (.cells #[.string O.key, .string ⟨#[108, 105, 115, 116]⟩] 33) d0
        have e1 := Lib.cell?_alloc_some (.cells #[.string O.key, .string ⟨#[108, 105, 115, 116]⟩] 33) d1
        have hw : wrt O = true := by unfold wrt; rw [hk]; rfl
        have htg : tagB O = bList := by unfold tagB; rw [hk]; rfl
        obtain ⟨r, hr⟩ : ∃ r : Bool, r = true ↔ metP l (m + 1) O.key bList := by classical exact ⟨decide (metP l (m + 1) O.key bList), by simp⟩
        have HFB : Hid (finB l m = !r) := by
          have h1 := fin_iff hjl (by rw [hO]; exact hw)
          rw [hO, htg] at h1
          show finB l m = !r
          cases r with
          | true => exact finB_no (fun c => h1.1 c (hr.1 rfl))
          | false => exact finB_yes (h1.2 (fun c => by have := hr.2 c; cases this))
        have HCT : Hid (decide ((m : Int) ∈ fs) = !r) := by
          show decide ((m : Int) ∈ fs) = !r
          rw [← HFB.out, ← HFS.out]
          have h2 : ((m : Int) ∈ finsL l) ↔ Fin l l.length m := by
            rw [mem_fins]
            exact ⟨fun ⟨i, e, h⟩ => by have : i = m := by omega
                                       subst this; exact h, fun h => ⟨m, rfl, h⟩⟩
          by_cases hf : Fin l l.length m
          · rw [decide_eq_true (h2.2 hf), finB_yes hf]
          · rw [decide_eq_false (fun c => hf (h2.1 c)), finB_no hf]
        have HST : Hid (∀ x y, metP l m x y ↔ ((O.key = x ∧ ⟨#[108, 105, 115, 116]⟩ = y) ∨ metP l (m + 1) x y)) := fun x y => by have h3 := met_step hjl (by rw [hO]; exact hw) x y; rw [hO, htg] at h3; exact h3
        have HR := hid hr
        clear hw htg hr hO
        go_upto_region 12 with fail
        obtain ⟨W, hW⟩ : ∃ W, (wr.alloc (.cells #[.string O.key, .string ⟨#[108, 105, 115, 116]⟩] 33)) = W := ⟨_, rfl⟩
        rw [hW]
        have q0 : W.cell? ⟨wr.heap.size, 0, none⟩ = some (.string O.key) := by rw [← hW]; simp
        have q1 : W.cell? ⟨wr.heap.size, 1, none⟩ = some (.string ⟨#[108, 105, 115, 116]⟩) := by rw [← hW]; simp
        have BWW : Hid (Below wr.heap.size wr W) := by show Below _ _ _; rw [← hW]; exact below_box wr _
        have MW : Hid (∀ q, Met (W.drewN q) w1.heap.size (l.length - (m + 1)) (metP l (m + 1))) := fun q => MX.out.same (BWW.out.block _ MX.out.lt)
        have IW : Hid (∀ q, IR w.heap.size (W.drewN q) (.slice pa fs.length pc) fs) := fun q => IX.out.same (fun g hg => BWW.out.block g (IX.out.block hg).2)
        have hlook : ∀ q, (Instr.lookup 32 (.map (some w1.heap.size)) (.agg #[.string O.key, .string ⟨#[108, 105, 115, 116]⟩]) false).run Try.prog (W.drewN q) = .ok (.bool r) (W.drewN q) := fun q => (MW.out q).look O.key ⟨#[108, 105, 115, 116]⟩ OKS.out (by decide) r HR.out
        have CI : ∀ q, Calls Try.prog 18 #[.slice pa fs.length pc, .int .i64 m] (W.drewN q) fun e w'' => e = .returned (.bool (!r)) ∧ ∃ k, w'' = W.drewN k := fun q => by have h4 := containsI_is _ fs (m : Int) _ (IW.out q) (by have := FL.out; omega); rw [HCT.out] at h4; exact h4.mono (fun e w' ⟨h1, h2⟩ => ⟨h1, q, h2.symm⟩)
        have CIH := hid CI
        have hwlt : wr.heap.size < W.heap.size := World.block_lt_of_cell? _ _ q0
        clear CI hW d0 d1 e0 e1
        obtain ⟨N, hN⟩ : ∃ N, ct (finB l) (m + 1) (l.length - (m + 1)) = N := ⟨_, rfl⟩
        have hNb : (N : Int) ≤ 2199023255552 := by have h5 := ct_le (finB l) (l.length - (m + 1)) (m + 1); rw [hN] at h5; omega
        rw [hN]
        have HNN := hid hN
        clear hN
        cases r with
        | true =>
          rw [Bool.not_true] at CIH HFB
          go_wp2_with fail
          go_quiet ((go_at_call 18; exact CIH.out _))
          go_wp2_with (at_mapUpdate; refine wpList_met _ rfl _ _ _ rfl w1.heap.size (l.length - (m + 1)) (metP l (m + 1)) rfl (MW.out _) (by unfold maxLen; omega) O.key ⟨#[108, 105, 115, 116]⟩ rfl rfl OKS.out (by decide) ?_; intro w5 hm5 hg5; have M5 := hid hm5; have G5 := hid hg5; clear hm5 hg5)
          have S5 : W.heap.size ≤ w5.heap.size := G5.out.size
          have KP : Hid (∀ b, b < W.heap.size → b ≠ w1.heap.size → w5.heap[b]? = W.heap[b]?) := fun b hb hn => G5.out.block b hb (fun e => by injection e with e; omega)
          have SX2 := SX.out
          have SB := B1.out.size
          go_roundg m
          case measure => omega
          case rel =>
            refine ⟨m, _, by omega, by omega, rfl, by go_num, ?_, (show Aside _ from BX.out.trans ((BWW.out.mono (by omega)).trans ⟨G5.out.os, G5.out.tape, G5.out.output, S5, fun b hb => KP.out b (by omega) (by omega)⟩)), (show Aside _ from M5.out.congr (by omega) HST.out), (show Aside _ from (IW.out 0).same (fun g hg => KP.out g (by have := HGB.out g hg; omega) (by have := HGB.out g hg; omega))), (show Aside _ from by show w1.heap.size < w5.heap.size; omega)⟩
            rw [CTS.out, HFB.out]; simp [HNN.out]
        | false =>
          rw [Bool.not_false] at CIH HFB
          go_wp2_with fail
          go_quiet ((go_at_call 18; exact CIH.out _))
          go_wp2_with (at_mapUpdate; refine wpList_met _ rfl _ _ _ rfl w1.heap.size (l.length - (m + 1)) (metP l (m + 1)) rfl (MW.out _) (by unfold maxLen; omega) O.key ⟨#[108, 105, 115, 116]⟩ rfl rfl OKS.out (by decide) ?_; intro w5 hm5 hg5; have M5 := hid hm5; have G5 := hid hg5; clear hm5 hg5)
          have S5 : W.heap.size ≤ w5.heap.size := G5.out.size
          have KP : Hid (∀ b, b < W.heap.size → b ≠ w1.heap.size → w5.heap[b]? = W.heap[b]?) := fun b hb hn => G5.out.block b hb (fun e => by injection e with e; omega)
          have SX2 := SX.out
          have SB := B1.out.size
          go_roundg m
          case measure => omega
          case rel =>
            refine ⟨m, _, by omega, by omega, rfl, by go_num, ?_, (show Aside _ from BX.out.trans ((BWW.out.mono (by omega)).trans ⟨G5.out.os, G5.out.tape, G5.out.output, S5, fun b hb => KP.out b (by omega) (by omega)⟩)), (show Aside _ from M5.out.congr (by omega) HST.out), (show Aside _ from (IW.out 0).same (fun g hg => KP.out g (by have := HGB.out g hg; omega) (by have := HGB.out g hg; omega))), (show Aside _ from by show w1.heap.size < w5.heap.size; omega)⟩
            rw [CTS.out, HFB.out]; simp [HNN.out]; try omega
      · have hk1 : (O.kind == 1) = false := by simp [hk]
        have hw : wrt O = false := by unfold wrt; rw [hk1, hk3]; rfl
        have HFB : Hid (finB l m = false) := finB_no (fun c => by have := c.2.1; rw [hO, hw] at this; cases this)
        have HST : Hid (∀ x y, metP l m x y ↔ metP l (m + 1) x y) := fun x y => met_skip (by rw [hO]; exact hw) x y
        have e0 := Lib.cell?_alloc_some (.cells #[.string O.key, .string ⟨#[108, 105, 115, 116]⟩] 33) d0
        clear hk hw hO
        have SX2 := SX.out
        have SB := B1.out.size
        go_wp2_with fail
        go_roundg m
        case measure => omega
        case rel =>
          refine ⟨m, _, by omega, by omega, rfl, by go_num, ?_, (show Aside _ from BX.out.trans ((below_box wr _).mono (by omega))), (show Aside _ from (MX.out.same ((below_box wr _).block _ MX.out.lt)).congr (by omega) HST.out), (show Aside _ from IX.out.same (fun g hg => (below_box wr _).block g (IX.out.block hg).2)), (show Aside _ from by show w1.heap.size < _; simp; omega)⟩
          rw [CTS.out, HFB.out]; simp
end Go.Proofs.Ytadlnkaphkbfdaa
